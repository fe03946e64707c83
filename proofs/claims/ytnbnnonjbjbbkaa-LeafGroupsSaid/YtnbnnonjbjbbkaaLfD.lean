/- Rows of items in a program: Apply. -/
import Derived.Test.YtnbnnonjbjbbkaaLfC
import Derived.Laws.EntriesVeiled
namespace Go.By
open Go Go.RowKit
theorem passed_mem {k : List Nat} {l : List NIt} {i : NIt} (h : i ∈ passed k l) : i ∈ l := by
  cases l with
  | nil => exact h
  | cons j r =>
    rw [passed] at h
    split at h
    · exact List.mem_cons_of_mem _ h
    · exact h
theorem fold_mem : ∀ (l : List NCh) (x : List NIt × List NIt) {i : NIt}, i ∈ (l.foldl stepAll x).1 → i ∈ x.1
  | [], _, _, h => h
  | c :: l, x, i, h => by
    have h1 := fold_mem l (stepAll x c) h
    exact List.mem_of_mem_drop (passed_mem (show i ∈ passed c.k (x.1.drop (front c.k x.1)) from h1))
theorem fold_next {l : List NCh} {k : Nat} (h : k < l.length) (x : List NIt × List NIt) : (l.take (k + 1)).foldl stepAll x = stepAll ((l.take k).foldl stepAll x) l[k] := by
  rw [List.take_succ_eq_append_getElem h, List.foldl_append]
  rfl
/-- So many of the three steps. -/
def stepN (c : NCh) (x : List NIt × List NIt) : Nat → List NIt × List NIt
  | 0 => x
  | 1 => step1 c x
  | 2 => step2 c (step1 c x)
  | _ => stepAll x c
theorem step1_len (c : NCh) (x : List NIt × List NIt) : (step1 c x).1.length ≤ x.1.length ∧ (step1 c x).2.length ≤ x.2.length + x.1.length := by
  have h1 := front_le c.k x.1
  unfold step1
  simp only [List.length_append, List.length_take, List.length_drop]
  omega
end Go.By
namespace Go.Proofs.Ytnbnnonjbjbbkaa
open Go Go.RowKit Go.By

/-- Items, new, are told. -/
def ItemsTold (w : World) (its : List NIt) (e : Ending) (w' : World) : Prop := ∃ v, e = .returned v ∧ ItRow w' w.heap.size v its ∧ Below w.heap.size w w'
def stepsC (r : Nat) : Array Value := #[.func (.func 12) #[.pointer (some ⟨r, 0, none⟩)] #[], .func (.func 13) #[.pointer (some ⟨r, 0, none⟩)] #[], .func (.func 14) #[.pointer (some ⟨r, 0, none⟩)] #[]]
def ApRel (w0 : World) (r : Nat) (its : List NIt) (l : List NCh) (i : Value) (W : World) : Prop :=
  ∃ k : Nat, k ≤ l.length ∧ i = .int .i64 k ∧ Rw w0 r ((l.take k).foldl stepAll (its, [])) W ∧ W.heap[r + 1]? = some (.cells (stepsC r) 46 (0, 0))
def StRel (w0 : World) (r g : Nat) (c : NCh) (cs : Array Value) (x : List NIt × List NIt) (i : Value) (W : World) : Prop :=
  ∃ k : Nat, k ≤ 3 ∧ i = .int .i64 k ∧ Rw w0 r (stepN c x k) W ∧ W.heap[r + 1]? = some (.cells (stepsC r) 46 (0, 0)) ∧ W.heap[g]? = some (.cells cs 29 (0, 0))
theorem Rw.more {w0 w w' : World} {r : Nat} {x : List NIt × List NIt} (h : Rw w0 r x w) (hb : Below w.heap.size w w') : Rw w0 r x w' := by
  obtain ⟨pl, cl, h1, h2⟩ := h
  exact ⟨pl, cl, h1, h2.more hb⟩
theorem steps_index0 (a b c : Value) (w : World) : (Instr.index 46 (.agg #[a, b, c]) (.int .i64 0)).run Try.prog w = .ok a w := by kernel_rfl
theorem steps_index1 (a b c : Value) (w : World) : (Instr.index 46 (.agg #[a, b, c]) (.int .i64 1)).run Try.prog w = .ok b w := by kernel_rfl
theorem steps_index2 (a b c : Value) (w : World) : (Instr.index 46 (.agg #[a, b, c]) (.int .i64 2)).run Try.prog w = .ok c w := by kernel_rfl
theorem ty_ch : 46 ≠ 36 ∧ 29 ≠ 36 := by decide
theorem info_items : ∃ i, Try.prog.info? 36 = some i ∧ i.zero = some (.agg #[.slice none 0 0, .slice none 0 0]) ∧ i.size = 2 ∧ i.bytes = 48 := ⟨_, rfl, rfl, rfl, rfl⟩
/-- make([]Item, 0, c). -/
theorem items_made (c : Nat) (C : Int) (hC : C = c) (hc : c ≤ 2000000) (w : World) :
    ∃ cs : Array Value, cs.size = c * 2 ∧ (Instr.makeSlice 33 (.int .i64 0) (.int .i64 C)).run Try.prog w = .ok (.slice (some ⟨w.heap.size, 0, none⟩) 0 c) (w.alloc (.cells cs 36)) := by
  subst hC
  obtain ⟨i, hi, hz, hs, hb⟩ := info_items
  have h := run_make (P := Try.prog) w 33 36 i _ (by kernel_rfl) hi hz .i64 .i64 0 (c : Int) (by omega) (by omega) (by rw [hb]; omega) (by omega)
  simp only [Int.toNat_zero, Int.toNat_natCast, hs] at h
  exact ⟨_, size_madeCells _ _, h⟩

set_option maxRecDepth 100000 in
set_option maxHeartbeats 2000000 in
theorem apply_any (pi : Option Addr) (ci : Nat) (its : List NIt) (pc : Option Addr) (cc : Nat) (l : List NCh) (w : World) (hi : RowAt KItem w pi ci its) (hl : RowAt KChange w pc cc l) (hs : AllShort its) (hsc : ∀ c ∈ l, ShortIt ⟨c.k, c.v⟩) (hm : its.length + l.length ≤ 500000) :
    Calls Try.prog 8 #[.slice pi its.length ci, .slice pc l.length cc] w (ItemsTold w (applyN its l)) := by
  obtain ⟨cs, hcs, hmake⟩ := items_made (its.length + l.length) ((its.length : Int) + l.length) (by omega) (by omega) w
  obtain ⟨W1, hW1⟩ : ∃ W, W = w.alloc (.cells cs 36) := ⟨_, rfl⟩
  obtain ⟨W2, hW2⟩ : ∃ W, W = W1.alloc (.cells #[.slice pi its.length ci, .slice (some ⟨w.heap.size, 0, none⟩) 0 (its.length + l.length)] 44) := ⟨_, rfl⟩
  obtain ⟨W3, hW3⟩ : ∃ W, W = W2.alloc (.cells (stepsC (w.heap.size + 1)) 46) := ⟨_, rfl⟩
  have hz1 : W1.heap.size = w.heap.size + 1 := by rw [hW1]; simp
  have hz2 : W2.heap.size = w.heap.size + 2 := by rw [hW2]; simp [hz1]
  have hb1 : Below w.heap.size w W1 := by rw [hW1]; exact (Below.refl _ _).alloc (Nat.le_refl _) _
  have hb2 : Below W1.heap.size W1 W2 := by rw [hW2]; exact (Below.refl _ _).alloc (Nat.le_refl _) _
  have hb3 : Below W2.heap.size W2 W3 := by rw [hW3]; exact (Below.refl _ _).alloc (Nat.le_refl _) _
  have hb13 : Below W1.heap.size W1 W3 := hb2.trans (hb3.mono hb2.size)
  have hbw : Below w.heap.size w W3 := hb1.trans (hb13.mono hb1.size)
  have hown : W1.ownsRow w.heap.size 36 2 (.slice (some ⟨w.heap.size, 0, none⟩) 0 (its.length + l.length)) 0 [] := by
    rw [hW1]
    exact World.ownsRow_made w cs _ (Nat.le_refl _) (by unfold maxLen; omega) hcs
  have hrow : ItRow W3 w.heap.size (.slice (some ⟨w.heap.size, 0, none⟩) 0 (its.length + l.length)) [] := ⟨[], rfl, owns_below' hown hb13, fun j h => absurd h (Nat.not_lt_zero _)⟩
  have hra : RwAt W3 (w.heap.size + 1) (.slice pi its.length ci) (.slice (some ⟨w.heap.size, 0, none⟩) 0 (its.length + l.length)) := by
    refine RwAt.below ?_ hb3
    rw [hW2, ← hz1]
    exact heap_alloc_new W1 _
  have harr : W3.heap[w.heap.size + 1 + 1]? = some (.cells (stepsC (w.heap.size + 1)) 46 (0, 0)) := by
    rw [hW3, show w.heap.size + 1 + 1 = W2.heap.size by rw [hz2]]
    exact heap_alloc_new W2 _
  have H0 : Hid (ApRel w (w.heap.size + 1) its l (.int .i64 (0 : Nat)) W3) := ⟨0, Nat.zero_le _, rfl, ⟨pi, ci, hi, _, hra, hrow, hbw⟩, harr⟩
  have HW3 : Hid (((w.alloc (.cells cs 36)).alloc (.cells #[.slice pi its.length ci, .slice (some ⟨w.heap.size, 0, none⟩) 0 (its.length + l.length)] 44)).alloc (.cells #[.func (.func 12) #[.pointer (some ⟨w.heap.size + 1, 0, none⟩)] #[], .func (.func 13) #[.pointer (some ⟨w.heap.size + 1, 0, none⟩)] #[], .func (.func 14) #[.pointer (some ⟨w.heap.size + 1, 0, none⟩)] #[]] 46) = W3) := by
    unfold Hid; rw [hW3, hW2, hW1]; rfl
  have HL := Lib.hid hl; have HS := Lib.hid hs; have HSC := Lib.hid hsc
  have HM : Hid (∀ k, (((l.take k).foldl stepAll (its, [])).1.length + ((l.take k).foldl stepAll (its, [])).2.length ≤ 500000)) := fun k => by
    have h1 := fold_len (l.take k) (its, [])
    have h2 : (l.take k).length ≤ l.length := by rw [List.length_take]; omega
    simp only [List.length_nil] at h1
    omega
  have HAS : Hid (∀ k, AllShort ((l.take k).foldl stepAll (its, [])).1) := fun k i hi => hs i (fold_mem _ _ hi)
  have hL9 : (l.length : Int) ≤ 500000 := by omega
  have hI9 : (its.length : Int) ≤ 500000 := by omega
  obtain ⟨NL, hNL⟩ : ∃ NL, NL = l.length := ⟨_, rfl⟩
  have HNL := Lib.hid hNL
  rw [← hNL] at hL9 hmake HW3 ⊢
  clear hz1 hz2 hb1 hb2 hb3 hb13 hbw hown hrow hra harr hi hl hs hsc hm hcs hW1 hW2 hW3 hNL
  go_enter Try.func8, Try.ntmps8
  go_wp2
  rw [HW3.out]
  clear HW3 hmake
  go_loopw [25] (fun i W => ApRel w (w.heap.size + 1) its l i W) (fun i _ => NL - (intOf i).toNat)
  case atStart => exact H0.out
  case round =>
    clear H0
    obtain ⟨k, hk, rfl, hrw, harr⟩ := hrel
    by_cases hlt : k < NL
    · have hkl : k < l.length := by rw [← HNL.out]; exact hlt
      have hb0 : Below w.heap.size w wr := by obtain ⟨_, _, _, _, _, _, g⟩ := hrw; exact g
      obtain ⟨lb, lo, ccs, rfl, hcc, a, b, rfl, ha, hb⟩ := HL.out.at_ k hkl
      obtain ⟨e0, e1, e2⟩ := (hcc.below hb0).three
      simp only [KChange] at e0 e1 e2
      have hx1 := HM.out k; have hx2 := HAS.out k
      have hfn := fold_next hkl (its, [])
      have hsk := HSC.out _ (List.getElem_mem hkl)
      generalize hx : (l.take k).foldl stepAll (its, []) = x at *
      generalize l[k] = c at *
      obtain ⟨W, hW⟩ : ∃ W, W = wr.alloc (.cells #[a, b, .bool c.out] 29) := ⟨_, rfl⟩
      have hbW : Below wr.heap.size wr W := by rw [hW]; exact (Below.refl _ _).alloc (Nat.le_refl _) _
      have harW : W.heap[w.heap.size + 1 + 1]? = some (.cells (stepsC (w.heap.size + 1)) 46 (0, 0)) := (hbW.block _ (Array.getElem?_eq_some_iff.1 harr).1).trans harr
      have hcW : W.heap[wr.heap.size]? = some (.cells #[a, b, .bool c.out] 29 (0, 0)) := by rw [hW]; exact heap_alloc_new wr _
      have h00 : Hid (StRel w (w.heap.size + 1) wr.heap.size c #[a, b, .bool c.out] x (.int .i64 (0 : Nat)) W) := ⟨0, by omega, rfl, hrw.more hbW, harW, hcW⟩
      have hr : w.heap.size ≤ w.heap.size + 1 := Nat.le_succ _
      have hlen1 := step1_len c x
      have HK1 : Hid (∀ W1, Rw w (w.heap.size + 1) (stepN c x 0) W1 → Calls Try.prog 12 #[.pointer (some ⟨w.heap.size + 1, 0, none⟩), .agg #[a, b, .bool c.out]] W1 (RwIs w (w.heap.size + 1) (stepN c x 1) W1)) := fun W1 h => keepBelow_any w _ x c a b W1 h hr ha hb hx2 (by omega)
      have HK2 : Hid (∀ W1, Rw w (w.heap.size + 1) (stepN c x 1) W1 → Calls Try.prog 13 #[.pointer (some ⟨w.heap.size + 1, 0, none⟩), .agg #[a, b, .bool c.out]] W1 (RwIs w (w.heap.size + 1) (stepN c x 2) W1)) := fun W1 h => passOver_any w _ (step1 c x) c a b W1 h hr ha hb (by omega)
      have HK3 : Hid (∀ W1, Rw w (w.heap.size + 1) (stepN c x 2) W1 → Calls Try.prog 14 #[.pointer (some ⟨w.heap.size + 1, 0, none⟩), .agg #[a, b, .bool c.out]] W1 (RwIs w (w.heap.size + 1) (stepN c x 3) W1)) := fun W1 h => put_any w _ (step2 c (step1 c x)) c a b W1 h hr ha hb hsk (by show (step1 c x).2.length ≤ 1000000; omega)
      have HNX : Hid (∀ W1, Rw w (w.heap.size + 1) (stepN c x 3) W1 → W1.heap[w.heap.size + 1 + 1]? = some (.cells (stepsC (w.heap.size + 1)) 46 (0, 0)) → ApRel w (w.heap.size + 1) its l (.int .i64 (k + 1 : Nat)) W1) := fun W1 h1 h2 => ⟨k + 1, hkl, rfl, by rw [hfn]; exact h1, h2⟩
      obtain ⟨qa, ca, rfl, -⟩ := ha.any
      obtain ⟨qb, cb, rfl, -⟩ := hb.any
      have HG : Hid (wr.heap.size ≠ w.heap.size + 1) := by
        obtain ⟨_, _, _, _, g, _⟩ := hrw
        have := g.lt
        unfold Hid; omega
      have HLT := Lib.hid hlt
      have HW := Lib.hid hW
      have f0 := cells_of harW 0; have f1 := cells_of harW 1; have f2 := cells_of harW 2
      simp only [stepsC, List.getElem?_toArray, List.getElem?_cons_zero, List.getElem?_cons_succ] at f0 f1 f2
      rw [HW.out] at f0 f1 f2
      clear hx hx1 hx2 hfn hsk hkl hb0 hcc ha hb hrw harr hbW harW hcW hr hlen1 hW HL HS HSC HM HAS
      generalize c.k.length = l1 at *
      generalize c.v.length = l2 at *
      generalize c.out = o at *
      go_wp2
      rw [← HW.out]
      clear HW f0 f1 f2 e0 e1 e2
      generalize hgG : wr.heap.size = G at *
      clear hgG
      go_loopw [30] (fun i W' => StRel w (w.heap.size + 1) G c #[.slice qa l1 ca, .slice qb l2 cb, .bool o] x i W') (fun i _ => 3 - (intOf i).toNat)
      case atStart => exact h00.out
      case round =>
        clear h00
        obtain ⟨j, hj, rfl, hrw2, har2, hcb2⟩ := hrel
        have g0 := cells_of hcb2 0; have g1 := cells_of hcb2 1; have g2 := cells_of hcb2 2
        simp only [List.getElem?_toArray, List.getElem?_cons_zero, List.getElem?_cons_succ] at g0 g1 g2
        match j, hj with
        | 0, _ =>
          have hidx := fun W' => steps_index0 (.func (.func 12) #[.pointer (some ⟨w.heap.size + 1, 0, none⟩)] #[]) (.func (.func 13) #[.pointer (some ⟨w.heap.size + 1, 0, none⟩)] #[]) (.func (.func 14) #[.pointer (some ⟨w.heap.size + 1, 0, none⟩)] #[]) W'
          have HC := Lib.hid (HK1.out _ hrw2)
          have HAR := Lib.hid har2; have HCB := Lib.hid hcb2
          clear hrw2 har2 hcb2 HK1 HK2 HK3
          go_wp2_with fail
          refine HC.out.mono ?_
          rintro e w4 ⟨rfl, hrw4, hkt⟩
          have HR : Hid (StRel w (w.heap.size + 1) G c #[.slice qa l1 ca, .slice qb l2 cb, .bool o] x (.int .i64 (1 : Nat)) w4) :=
            ⟨1, by omega, rfl, hrw4, hkt _ _ _ _ (by omega) ty_ch.1 HAR.out, hkt _ _ _ _ HG.out ty_ch.2 HCB.out⟩
          clear hrw4 hkt HC
          go_wp2
          go_roundw
          case rel => exact HR.out
          case measure => simp [intOf]
        | 1, _ =>
          have hidx := fun W' => steps_index1 (.func (.func 12) #[.pointer (some ⟨w.heap.size + 1, 0, none⟩)] #[]) (.func (.func 13) #[.pointer (some ⟨w.heap.size + 1, 0, none⟩)] #[]) (.func (.func 14) #[.pointer (some ⟨w.heap.size + 1, 0, none⟩)] #[]) W'
          have HC := Lib.hid (HK2.out _ hrw2)
          have HAR := Lib.hid har2; have HCB := Lib.hid hcb2
          clear hrw2 har2 hcb2 HK1 HK2 HK3
          go_wp2_with fail
          refine HC.out.mono ?_
          rintro e w4 ⟨rfl, hrw4, hkt⟩
          have HR : Hid (StRel w (w.heap.size + 1) G c #[.slice qa l1 ca, .slice qb l2 cb, .bool o] x (.int .i64 (2 : Nat)) w4) :=
            ⟨2, by omega, rfl, hrw4, hkt _ _ _ _ (by omega) ty_ch.1 HAR.out, hkt _ _ _ _ HG.out ty_ch.2 HCB.out⟩
          clear hrw4 hkt HC
          go_wp2
          go_roundw
          case rel => exact HR.out
          case measure => simp [intOf]
        | 2, _ =>
          have hidx := fun W' => steps_index2 (.func (.func 12) #[.pointer (some ⟨w.heap.size + 1, 0, none⟩)] #[]) (.func (.func 13) #[.pointer (some ⟨w.heap.size + 1, 0, none⟩)] #[]) (.func (.func 14) #[.pointer (some ⟨w.heap.size + 1, 0, none⟩)] #[]) W'
          have HC := Lib.hid (HK3.out _ hrw2)
          have HAR := Lib.hid har2; have HCB := Lib.hid hcb2
          clear hrw2 har2 hcb2 HK1 HK2 HK3
          go_wp2_with fail
          refine HC.out.mono ?_
          rintro e w4 ⟨rfl, hrw4, hkt⟩
          have HR : Hid (StRel w (w.heap.size + 1) G c #[.slice qa l1 ca, .slice qb l2 cb, .bool o] x (.int .i64 (3 : Nat)) w4) :=
            ⟨3, by omega, rfl, hrw4, hkt _ _ _ _ (by omega) ty_ch.1 HAR.out, hkt _ _ _ _ HG.out ty_ch.2 HCB.out⟩
          clear hrw4 hkt HC
          go_wp2
          go_roundw
          case rel => exact HR.out
          case measure => simp [intOf]
        | 3, _ =>
          have HR := Lib.hid (HNX.out _ hrw2 har2)
          clear hrw2 har2 hcb2 HK1 HK2 HK3
          go_wp2
          go_roundw
          case rel => exact HR.out
          case measure => simp [intOf]; have := HLT.out; omega
    · obtain rfl : k = NL := by have := HNL.out; omega
      have htk : l.take k = l := List.take_of_length_le (by rw [← HNL.out]; exact Nat.le_refl _)
      have hmm := HM.out k
      have has := HAS.out k
      rw [htk] at hrw hmm has
      have HAP : Hid (applyN its l = (l.foldl stepAll (its, [])).2 ++ (l.foldl stepAll (its, [])).1) := rfl
      generalize l.foldl stepAll (its, []) = x at *
      have HK := Lib.hid (keep_any w (w.heap.size + 1) x x.1.length wr hrw (Nat.le_succ _) (Nat.le_refl _) has (by omega))
      obtain ⟨pl, cl, _, mv, hra, _, _⟩ := hrw
      have c0 := cells_of hra 0
      simp only [List.getElem?_toArray, List.getElem?_cons_zero, List.getElem?_cons_succ] at c0
      have HTK : Hid (x.1.take x.1.length = x.1) := List.take_length
      generalize x.1.length = NX at *
      clear hra hmm has htk harr HM HAS HL HS HSC
      go_wp2_with fail
      refine HK.out.mono ?_
      rintro e w4 ⟨rfl, ⟨pl', cl', _, mv', hra', hit', hb'⟩, _⟩
      dsimp only at hit'
      rw [HTK.out, ← HAP.out] at hit'
      have c1 := cells_of hra' 1
      simp only [List.getElem?_toArray, List.getElem?_cons_zero, List.getElem?_cons_succ] at c1
      have HF : Hid (ItemsTold w (applyN its l) (.returned mv') w4) := ⟨_, rfl, hit', hb'⟩
      obtain ⟨pm, cm, rfl, -⟩ := hit'.at_
      clear hra' hit' hb' HK c0
      generalize (applyN its l).length = NA at *
      go_wp2
      go_ret
      exact HF.out
end Go.Proofs.Ytnbnnonjbjbbkaa

