/- Regions in the text's order, by the same tables as those that draw theirs (Reg, RegO): what each operation leaves is said once; a guard that is not known splits one operation, not the walk. Over whatever program. -/
import Derived.Test.YtajfcnaifegonaaMRefN
namespace Go.By
open Go Go.RowKit
theorem openOf_none {listed : Array Bool} (h : ∀ i, i < listed.size → listed.getD i false = true) : openOf listed = 0 := by
  unfold openOf
  rw [List.length_eq_zero_iff, List.filter_eq_nil_iff]
  intro b hb
  obtain ⟨i, hi, rfl⟩ := List.getElem_of_mem hb
  have hi' : i < listed.size := by simpa using hi
  have := h i hi'
  simp [Array.getD, hi'] at this
  simp [this]
section
variable {P : Program} {ops : Array Oper} {Q : Exit → Act → World → Prop} {a0 : Act} {w0 : World} {Ds : List (List Nat)} {n : Nat}
theorem ready_next {listed : Array Bool} {k : Nat} {o : Oper} (ho : ops[k]? = some o) (hsz : listed.size = ops.size) (haft : ∀ e ∈ o.after, Region.binds .any e = true → e.on < k) (hlo : ∀ j, j < k → listed.getD j false = true) (hhi : ∀ j, k ≤ j → listed.getD j false = false) : k ∈ Region.ready .any ops listed := by
  have hk : k < ops.size := (Array.getElem?_eq_some_iff.1 ho).1
  refine mem_ready.2 ⟨?_, o, ho, fun e he hb => hlo _ (haft e he hb)⟩
  have hk' : k < listed.size := by rw [hsz]; exact hk
  have := hhi k (Nat.le_refl _)
  simpa [Array.getD, hk'] using this
theorem left_plain {Vs : List Lft} (hf : fitsB ops n Ds = true) (hn : a0.tmps.size = n) (hob : LeftOps P ops a0 w0 Vs Ds Vs ops.toList) (hlen : Vs.length = ops.size)
    (hend : ∀ w, Below w0.heap.size w0 w → LeftEnd w (fun a => Q .normal a w) Vs ops.toList a0) :
    ∀ (m k : Nat) (listed : Array Bool) (a : Act) (w : World), k + m = ops.size → LeftInv ops a0 w0 Vs listed a w → (∀ j, j < k → listed.getD j false = true) → (∀ j, k ≤ j → listed.getD j false = false) → wpOps P ops Q (List.range' k m) a w := by
  intro m
  induction m with
  | zero =>
    intro k listed a w hk hI hlo _
    have h0 : openOf listed = 0 := openOf_none fun i hi => hlo i (by rw [hI.size] at hi; omega)
    exact (leftInv_any (Q := Q) hf hn hob hlen hend 0 listed a w h0 hI).2
  | succ m ih =>
    intro k listed a w hk hI hlo hhi
    have hks : k < ops.size := by omega
    have ho : ops[k]? = some ops[k] := Array.getElem?_eq_getElem hks
    obtain ⟨_, _, _, _, haft, _⟩ := fits_at hf ho
    rw [List.range'_succ, wpOps_cons]
    refine leftInv_step hf hn hob hI (ready_next ho hI.size haft hlo hhi) fun a' w' hI' => ih (k + 1) _ a' w' (by omega) hI' (fun j hj => ?_) (fun j hj => ?_)
    · by_cases hjk : j = k
      · subst hjk
        have : j < listed.size := by rw [hI.size]; exact hks
        simp [Array.getD, this]
      · exact getD_set_true (hlo j (by omega))
    · rw [getD_set_ne false (by omega)]
      exact hhi j (by omega)
theorem wp_region_left_plain {id : Nat} (Vs : List Lft) (Ds : List (List Nat)) (hf : fitsB ops a0.tmps.size Ds = true) (hlen : Vs.length = ops.size)
    (hob : LeftOps P ops a0 w0 Vs Ds Vs ops.toList) (hend : ∀ w, Below w0.heap.size w0 w → LeftEnd w (fun a => Q .normal a w) Vs ops.toList a0) : (Code.region id ops false).wp P Q a0 w0 := by
  refine wp_region ?_
  rw [List.range_eq_range']
  have hnone : ∀ i, (Array.replicate ops.size false).getD i false = false := fun i => by
    by_cases h : i < ops.size <;> simp [Array.getD, h]
  refine left_plain hf rfl hob hlen hend ops.size 0 (Array.replicate ops.size false) a0 w0 (by omega) ⟨by simp, Below.refl _ _, rfl, rfl, fun i d hi _ => ?_, fun _ _ => rfl, fun k ok i hk _ _ => ?_⟩ (fun j hj => by omega) (fun j _ => hnone j)
  · rw [hnone i] at hi; cases hi
  · rw [hnone k] at hk; cases hk
end
theorem lft_maybe {P : Program} {ops : Array Oper} {o : Oper} {a : Act} {w : World} {d : Tmp} {g : Nat} {want b : Bool} {t : Tmp} {x : Value} (hd : o.dst = some d) (hg : o.guard = some (g, want)) (ht : dstAt ops g = some t) (hv : a.tmps[t]? = some (.bool b)) (hs : Nat.blt d a.tmps.size = true)
    (h : b = want → LftRun P o.op o.type d (.is x) a w) : wpList P ops (LeftPost (.is (if b = want then x else undef)) (o.dst.getD 0) a.defers w) [o] a w := by
  by_cases hb : b = want
  · rw [if_pos hb]
    subst hb
    exact lft_want hd hg ht hv (h rfl)
  · rw [if_neg hb]
    exact lft_skip hd hg ht hv (fun h => hb (by cases h; rfl)) hs rfl
end Go.By
