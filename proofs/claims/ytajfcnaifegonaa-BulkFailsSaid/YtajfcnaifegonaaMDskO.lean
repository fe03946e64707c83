/- The disk: a file's bytes: fit, put. -/
import Derived.Test.YtajfcnaifegonaaMDskG
import Derived.Test.YtajfcnaifegonaaMRow
import Derived.Handy
import Derived.Deep.RegionHeld3
namespace Go.Proofs.Ytajfcnaifegonaa
open Go Go.RowKit Go.By
theorem bytesT : ByT Try.prog 31 5 := ⟨by kernel_rfl, by kernel_rfl, by kernel_rfl⟩
theorem run_zeros_op {P : Program} {w : World} {ops : Array Oper} {rest : List Oper} {o : Oper} {a : Act} {Q : Exit → Act → World → Prop} (hgd : o.guard = none) (s x : Operand) {t e ti : TypeId} (T : ByT P t e) {k : IntKind} (hti : P.underlying ti = some (.int k))
    (ho : o.op = .call { callee := .builtin .append, args := #[s, x], argTypes := #[t, ti] }) (v : Value) (l : List Nat) (hs : a.eval s = v) (hown : w.ownsRow 0 e 1 v l.length (cellsOf l)) (n : Nat) (hx : a.eval x = .int .i64 n) (hb : l.length + n ≤ 140737488355328)
    (h : ∀ v' w', RowStep w w' e v v' (l ++ List.replicate n 0) → wpList P ops Q rest (a.put o.dst v') w') : wpList P ops Q (o :: rest) a w := by
  refine wpList_plain hgd fun K hK => ?_
  obtain ⟨v', w', hr, h1, h2, h3⟩ := run_append_zeros (ty := o.type) T hti 0 v l hown n hb (Nat.zero_le _)
  unfold Oper.wp execOp
  simp only [ho, resolve, invoke, builtin, Sem.run_bind, Sem.run_pure, Result.andThen_ok, List.map_toArray, List.map_cons, List.map_nil, hs, hx, hr]
  refine hK _ _ (h v' w' ⟨?_, h2, ?_⟩)
  · simpa using h1
  · rcases h3 with h3 | h3
    · exact .inl h3
    · exact .inr ⟨_, h3, Nat.le_refl _⟩
set_option maxRecDepth 100000 in
theorem fit_any (v : Value) (l : List Nat) (n : Nat) (w : World) (hv : w.ownsRow 0 5 1 v l.length (cellsOf l)) (hn : n ≤ 16777216 + 16777216) :
    Calls Try.prog 75 #[v, .int .i64 n] w fun e w' => ∃ v', e = .returned v' ∧ RowStep w w' 5 v v' (fitL l n) := by
  obtain ⟨p, cap, rfl, hcap⟩ : ∃ p cap, v = .slice p l.length cap ∧ l.length ≤ cap := by
    rcases hv.2 with ⟨h, h2⟩ | ⟨g, cap, _, h, _, _, h2, _⟩
    · exact ⟨none, 0, by rw [h, h2], by omega⟩
    · exact ⟨_, cap, h, h2⟩
  have hm : l.length ≤ 9223372036854775807 := by
    rcases hv.2 with ⟨_, h2⟩ | ⟨g, cap, _, h, _, _, h2, h3, _⟩
    · omega
    · unfold maxLen at h3; omega
  by_cases h : n ≤ l.length
  · have fin : RowStep w w 5 (.slice p l.length cap) (.slice p n cap) (fitL l n) := by
      rw [fitL_less h]
      refine ⟨by have := owns_less hv h; simpa [List.length_take, Nat.min_eq_left h] using this, World.grownBy.refl _ _, .inl (by cases p <;> rfl)⟩
    have FIN := Lib.hid fin
    have hc1 : (n : Int) ≤ cap := by omega
    have hi1 : (n : Int) ≤ l.length := by omega
    clear fin hv hn
    go_enter Try.func75, Try.ntmps75
    go_wp2
    go_ret
    exact ⟨_, rfl, FIN.out⟩
  · obtain ⟨d, hd⟩ : ∃ d, n = l.length + d := ⟨n - l.length, by omega⟩
    have hi1 : ¬ (n : Int) ≤ l.length := by omega
    have hdi : (n : Int) - l.length = (d : Int) := by omega
    have HF : Hid (fitL l n = l ++ List.replicate d 0) := by
      unfold Hid; rw [fitL_more (by omega)]; congr 2; omega
    have HV := Lib.hid hv
    have HD := Lib.hid hd
    clear hv hd
    go_enter Try.func75, Try.ntmps75
    go_wp2_with (at_builtin; refine run_zeros_op rfl (.tmp 12) (.tmp 16) (ti := 3) bytesT (k := .i64) (by kernel_rfl) rfl (.slice p l.length cap) l rfl HV.out d rfl (by have := HD.out; omega) ?_; intro v' w' hst)
    have HST := Lib.hid hst; clear hst
    go_wp2
    go_ret
    exact ⟨_, rfl, by rw [HF.out]; exact HST.out⟩
set_option maxRecDepth 100000 in
theorem put_any (v pv : Value) (l p : List Nat) (off : Nat) (w : World) (hv : w.ownsRow 0 5 1 v l.length (cellsOf l)) (hp : Bytes w pv p) (hd : ∀ k, pv.ownBlock = some k → v.ownBlock ≠ some k) (hpos : 0 < p.length) (hn : off + p.length ≤ 16777216 + 16777216) :
    Calls Try.prog 88 #[v, .int .i64 off, pv] w fun e w' => ∃ v', e = .returned v' ∧ RowStep w w' 5 v v' (putL l off p) := by
  have HV := Lib.hid hv; have HP := Lib.hid hp; have HD := Lib.hid hd
  obtain ⟨q, cap, rfl, hcap⟩ : ∃ p cap, v = .slice p l.length cap ∧ l.length ≤ cap := by
    rcases hv.2 with ⟨h, h2⟩ | ⟨g, cap, _, h, _, _, h2, _⟩
    · exact ⟨none, 0, by rw [h, h2], by omega⟩
    · exact ⟨_, cap, h, h2⟩
  have hm : l.length ≤ 9223372036854775807 := by
    rcases hv.2 with ⟨_, h2⟩ | ⟨g, cap, _, h, _, _, h2, h3, _⟩
    · omega
    · unfold maxLen at h3; omega
  obtain ⟨pb, po, pc, rfl, hpc⟩ : ∃ pb po pc, pv = .slice (some ⟨pb, po, none⟩) p.length pc ∧ ∀ i, i < p.length → w.cell? ⟨pb, po + i, none⟩ = some (.int .u8 (atB p i : Nat)) := by
    rcases hp.out with ⟨_, h⟩ | ⟨_, _, h⟩ | ⟨b, o, c, h, _, hc⟩
    · subst h; simp at hpos
    · subst h; simp at hpos
    · exact ⟨b, o, c, h, hc⟩
  have HPC := Lib.hid hpc
  have hpb : pb < w.heap.size := block_lt_of_cell (hpc 0 hpos)
  have hsz1 : (Try.prog.info? 5).map (·.size) = some 1 := by kernel_rfl
  have HSZ := Lib.hid hsz1
  have hend : (off : Int) + p.length ≤ 16777216 + 16777216 := by omega
  clear hv hp hd hpc hsz1
  -- behind the first step
  have rest : ∀ (v1 : Value) (l1 : List Nat) (w1 : World), RowStep w w1 5 (.slice q l.length cap) v1 l1 → off + p.length ≤ l1.length →
      ∃ g cap1 cur, v1 = .slice (some ⟨g, 0, none⟩) l1.length cap1 ∧ w1.heap[g]? = some (.cells cur 5 (0, 0)) ∧ l1.length ≤ cap1 ∧ cap1 ≤ maxLen ∧ cur.size = cap1 * 1 ∧ cur.toList.take (l1.length * 1) = cellsOf l1 ∧
        (∀ j u, (cellsOf p)[j]? = some u → w1.cell? ((⟨pb, po, none⟩ : Addr).add j) = some u) := by
    intro v1 l1 w1 hs hl
    rcases hs.owns.2 with ⟨_, h⟩ | ⟨g, cap1, cur, h1, _, h2, h3, h4, h5, h6⟩
    · omega
    · refine ⟨g, cap1, cur, h1, h2, h3, h4, h5, h6, fun j u hu => ?_⟩
      obtain ⟨hj, rfl⟩ := cellsOf_at hu
      rw [Addr.add_lit, World.cell?_of_block (hs.grown.block pb hpb (fun e => HD.out pb rfl e.symm))]
      exact HPC.out j hj
  have REST := Lib.hid rest
  clear rest hpb
  by_cases h : l.length < off + p.length
  · have HL : Hid (putL l off p = overL (fitL l (off + p.length)) off p) := by unfold Hid putL; rw [if_pos h]
    have hi : (l.length : Int) < (off : Int) + p.length := by omega
    have hfit := fit_any (.slice q l.length cap) l (off + p.length) w HV.out (by omega)
    have hca : ((off + p.length : Nat) : Int) = (off : Int) + p.length := by omega
    rw [hca] at hfit
    have HFIT := Lib.hid hfit
    clear hfit hca h
    go_enter Try.func88, Try.ntmps88
    go_wp2_with fail
    refine HFIT.out.mono ?_
    rintro e w1 ⟨v1, rfl, hs⟩
    obtain ⟨g, cap1, cur, rfl, h2, h3, h4, h5, h6, h7⟩ := REST.out v1 _ w1 hs (by rw [fitL_length]; omega)
    have hfl := fitL_length l (off + p.length)
    have hst := over_step (off := off) (p := p) h2 h3 h4 h5 h6 (by rw [hfl]; omega)
    have hall := hs.trans hst
    have HALL := Lib.hid hall
    have i1 : (off : Int) ≤ (fitL l (off + p.length)).length := by rw [hfl]; omega
    have i2 : ¬ cap1 = off := by omega
    have i3 : (off : Int) ≤ cap1 := by omega
    have H2 := Lib.hid h2; have H5 := Lib.hid h5; have H7 := Lib.hid h7; have HFL := Lib.hid hfl
    unfold maxLen at h4
    clear hs hst hall h2 h5 h6 h7
    generalize fitL l (off + p.length) = l1 at *
    clear hfl
    go_wp2_with (with_reducible refine wpList_copy_own rfl (.tmp 21) (.tmp 22) 31 31 rfl 5 bytesT.slice HSZ.out g off (l1.length - off) (cap1 - off) ⟨pb, po, none⟩ p.length pc ?hd ?hs cur 5 H2.out (cellsOf p) ?hn H7.out ?hf (cellsOf_one _) ?hk)
    case hd => rfl
    case hs => rfl
    case hn => rw [cellsOf_length, HFL.out]; simp
    case hf => rw [cellsOf_length, H5.out]; have := HFL.out; omega
    go_wp2
    go_ret
    exact ⟨_, rfl, by rw [HL.out]; exact HALL.out⟩
  · have HL : Hid (putL l off p = overL l off p) := by unfold Hid putL; rw [if_neg h]
    have hi : ¬ (l.length : Int) < (off : Int) + p.length := by omega
    have hlo : off + p.length ≤ l.length := by omega
    obtain ⟨g, cap1, cur, hveq, h2, h3, h4, h5, h6, h7⟩ := REST.out _ l w (RowStep.refl HV.out) hlo
    simp only [Value.slice.injEq, true_and] at hveq
    obtain ⟨rfl, rfl⟩ := hveq
    have hst := over_step (off := off) (p := p) h2 h3 h4 h5 h6 hlo
    have HALL := Lib.hid hst
    have i1 : (off : Int) ≤ l.length := by omega
    have i2 : ¬ cap = off := by omega
    have i3 : (off : Int) ≤ cap := by omega
    have H2 := Lib.hid h2; have H5 := Lib.hid h5; have H7 := Lib.hid h7; have HLO := Lib.hid hlo; have H3 := Lib.hid h3
    clear hst h2 h5 h6 h7 h4 h
    go_enter Try.func88, Try.ntmps88
    go_wp2_with (with_reducible refine wpList_copy_own rfl (.tmp 21) (.tmp 22) 31 31 rfl 5 bytesT.slice HSZ.out g off (l.length - off) (cap - off) ⟨pb, po, none⟩ p.length pc ?hd2 ?hs2 cur 5 H2.out (cellsOf p) ?hn2 H7.out ?hf2 (cellsOf_one _) ?hk2)
    try (case hd2 => rfl)
    try (case hs2 => rfl)
    case hn2 => rw [cellsOf_length]; have := HLO.out; show p.length = min p.length _; omega
    case hf2 => rw [cellsOf_length, H5.out]; have := HLO.out; have := H3.out; omega
    go_wp2
    go_ret
    exact ⟨_, rfl, by rw [HL.out]; exact HALL.out⟩
end Go.Proofs.Ytajfcnaifegonaa
/- The disk: what was laid by is done again, piece by piece. -/
namespace Go.Proofs.Ytajfcnaifegonaa
open Go Go.RowKit Go.By
structure Turned (S : Nat → Prop) (w w' : World) : Prop where
  os : w'.os = w.os
  tape : w'.tape = w.tape
  output : w'.output = w.output
  size : w.heap.size ≤ w'.heap.size
  block : ∀ k, k < w.heap.size → ¬ S k → w'.heap[k]? = w.heap[k]?
theorem Turned.refl (S : Nat → Prop) (w : World) : Turned S w w := ⟨rfl, rfl, rfl, Nat.le_refl _, fun _ _ _ => rfl⟩
theorem Turned.trans {S S' : Nat → Prop} {w w1 w2 : World} (h : Turned S w w1) (k : Turned S' w1 w2) (hS : ∀ j, S' j → S j ∨ w.heap.size ≤ j) : Turned S w w2 :=
  ⟨k.os.trans h.os, k.tape.trans h.tape, k.output.trans h.output, Nat.le_trans h.size k.size, fun j hj hn => (k.block j (Nat.lt_of_lt_of_le hj h.size) (fun hs => by
    rcases hS j hs with h' | h'
    · exact hn h'
    · omega)).trans (h.block j hj hn)⟩
theorem Turned.of_grown {w w' : World} {row : Option Nat} (h : w.grownBy w' row) : Turned (fun k => row = some k) w w' := ⟨h.os, h.tape, h.output, h.size, fun k hk hn => h.block k hk (fun e => hn e.symm)⟩
theorem Turned.weaken {S S' : Nat → Prop} {w w' : World} (h : Turned S w w') (hS : ∀ k, S k → S' k) : Turned S' w w' := ⟨h.os, h.tape, h.output, h.size, fun k hk hn => h.block k hk (fun hs => hn (hS k hs))⟩
theorem Turned.drew {S : Nat → Prop} {w w' : World} (h : Turned S w w') : Turned S w w'.drew := ⟨h.os, h.tape, h.output, h.size, h.block⟩
theorem Turned.alloc {S : Nat → Prop} {w w' : World} (h : Turned S w w') (o : Obj) : Turned S w (w'.alloc o) :=
  ⟨h.os, h.tape, h.output, Nat.le_trans h.size (by simp), fun k hk hn => (Below.heap_alloc w' o k (Nat.lt_of_lt_of_le hk h.size)).trans (h.block k hk hn)⟩
def drawLim : Nat := 1152921504606846976
structure Lasts (fid : FuncId) (first : Array Value) (S : Nat → Prop) (lb : Option Nat) (I : Nat → World → Prop) (bit : Nat → Bool) : Prop where
  call : ∀ i w, I i w → i < drawLim → Calls Try.prog fid first w fun e w' => e = .returned (.bool (bit i)) ∧ I (i + 1) w' ∧ w.grownBy w' lb
  stay : ∀ i w w', I i w → (∀ k, S k → w'.heap[k]? = w.heap[k]?) → I i w'
  here : ∀ i w k, I i w → S k → k < w.heap.size
  own : ∀ k, lb = some k → S k
  enter : ∀ args w, (callFunc fid args).run Try.prog w = .ok (.enter fid args) w
theorem always_lasts : Lasts 74 #[] (fun _ => False) none (fun _ _ => True) (fun _ => true) where
  call := by
    intro i w _ _
    go_enter Try.func74, Try.ntmps74
    go_wp2
    go_ret
    exact ⟨rfl, trivial, World.grownBy.refl _ _⟩
  stay := fun _ _ _ _ _ => trivial
  here := fun _ _ _ _ h => h.elim
  own := fun _ h => by cases h
  enter := by intro args w; kernel_rfl
def pieceLen (off n at_ : Nat) : Nat := min (128 - (off + at_) % 128) (n - at_)
def redoWrite (off : Nat) (b : List Nat) (bit : Nat → Bool) : Nat → Nat → Nat → List Nat → List Nat × Nat
  | 0, _, i, l => (l, i)
  | fuel + 1, at_, i, l =>
    if at_ < b.length then redoWrite off b bit fuel (at_ + pieceLen off b.length at_) (i + 1) (if bit i then putL l (off + at_) ((b.drop at_).take (pieceLen off b.length at_)) else l)
    else (l, i)
structure RowTo (S : Nat → Prop) (lb : Option Nat) (w w' : World) (v v' : Value) (l : List Nat) : Prop where
  owns : w'.ownsRow 0 5 1 v' l.length (cellsOf l)
  turned : Turned (fun k => v.ownBlock = some k ∨ lb = some k) w w'
  moved : v'.ownBlock = v.ownBlock ∨ ∃ k, v'.ownBlock = some k ∧ w.heap.size ≤ k
end Go.Proofs.Ytajfcnaifegonaa
/- The disk: a write, done again. -/
namespace Go.Proofs.Ytajfcnaifegonaa
open Go Go.RowKit Go.By
theorem pieceLen_pos {off n at_ : Nat} (h : at_ < n) : 0 < pieceLen off n at_ := by unfold pieceLen; omega
theorem pieceLen_le (off n at_ : Nat) : pieceLen off n at_ ≤ n - at_ := Nat.min_le_right _ _
theorem RowTo.refl {S : Nat → Prop} {lb : Option Nat} {w : World} {v : Value} {l : List Nat} (h : w.ownsRow 0 5 1 v l.length (cellsOf l)) : RowTo S lb w w v v l := ⟨h, Turned.refl _ _, .inl rfl⟩
theorem RowTo.step {S : Nat → Prop} {lb : Option Nat} {w w1 w2 : World} {v v1 v2 : Value} {l1 l2 : List Nat} (h : RowTo S lb w w1 v v1 l1) (k : RowStep w1 w2 5 v1 v2 l2) : RowTo S lb w w2 v v2 l2 where
  owns := k.owns
  turned := h.turned.trans (Turned.of_grown k.grown) (fun j hj => by
    rcases h.moved with hm | ⟨q, hm, hq⟩
    · exact .inl (.inl (by rw [← hm]; exact hj))
    · rw [hm] at hj; cases hj; exact .inr hq)
  moved := by
    rcases k.moved with hm | ⟨q, hm, hq⟩
    · rw [hm]; exact h.moved
    · exact .inr ⟨q, hm, Nat.le_trans h.turned.size hq⟩
theorem RowTo.asked {S : Nat → Prop} {lb : Option Nat} {w w1 w2 : World} {v v1 : Value} {l1 : List Nat} (h : RowTo S lb w w1 v v1 l1) (k : w1.grownBy w2 lb) (hn : ∀ j, v1.ownBlock = some j → lb ≠ some j) : RowTo S lb w w2 v v1 l1 where
  owns := ownsRow_of_heap h.owns fun j hj => k.block j (by
    rcases h.owns.2 with ⟨hv, _⟩ | ⟨g, cap, cur, hv, _, hg, _⟩
    · rw [hv] at hj; cases hj
    · rw [hv] at hj; cases hj; exact (Array.getElem?_eq_some_iff.1 hg).1) (fun e => hn j hj e.symm)
  turned := h.turned.trans (Turned.of_grown k) (fun j hj => .inl (.inr hj))
  moved := h.moved
theorem RowTo.lead {S : Nat → Prop} {lb : Option Nat} {w w1 w2 : World} {v v1 : Value} {l1 : List Nat} (h : Below w.heap.size w w1) (k : RowTo S lb w1 w2 v v1 l1) : RowTo S lb w w2 v v1 l1 where
  owns := k.owns
  turned := ⟨k.turned.os.trans h.os, k.turned.tape.trans h.tape, k.turned.output.trans h.output, Nat.le_trans h.size k.turned.size, fun j hj hn => (k.turned.block j (Nat.lt_of_lt_of_le hj h.size) hn).trans (h.block j hj)⟩
  moved := by
    rcases k.moved with hm | ⟨q, hm, hq⟩
    · exact .inl hm
    · exact .inr ⟨q, hm, Nat.le_trans h.size hq⟩
theorem RowTo.apart {S : Nat → Prop} {lb : Option Nat} {w w1 : World} {v v1 : Value} {l1 : List Nat} (h : RowTo S lb w w1 v v1 l1) (hS : ∀ k, v.ownBlock = some k → ¬ S k) (hl : ∀ k, S k → k < w.heap.size) {j : Nat} (hj : v1.ownBlock = some j) : ¬ S j := by
  rcases h.moved with hm | ⟨q, hm, hq⟩
  · rw [hm] at hj; exact hS j hj
  · rw [hm] at hj; cases hj; intro hs; have := hl _ hs; omega
theorem RowTo.keeps {S : Nat → Prop} {lb : Option Nat} {w w1 : World} {v v1 : Value} {l1 : List Nat} (h : RowTo S lb w w1 v v1 l1) {k : Nat} (hk : k < w.heap.size) (h1 : v.ownBlock ≠ some k) (h2 : lb ≠ some k) : w1.heap[k]? = w.heap[k]? :=
  h.turned.block k hk (fun h => h.elim h1 h2)
theorem Bytes.sub {w : World} {pb po pc n : Nat} {l : List Nat} (hc : ∀ i, i < l.length → w.cell? ⟨pb, po + i, none⟩ = some (.int .u8 (atB l i : Nat))) (hs : ∀ c ∈ l, c < 256) (hm : l.length ≤ maxLen) (lo : Nat) (hn : lo + n ≤ l.length) (hp : l.length ≤ pc) :
    Bytes w (.slice (some ⟨pb, po + lo, none⟩) n (pc - lo)) ((l.drop lo).take n) where
  out := by
    have hlen : ((l.drop lo).take n).length = n := by simp; omega
    refine .inr (.inr ⟨pb, po + lo, pc - lo, by rw [hlen], by rw [hlen]; omega, fun i hi => ?_⟩)
    rw [hlen] at hi
    have := hc (lo + i) (by omega)
    rw [Nat.add_assoc, this]
    congr 3
    unfold atB
    simp [List.getD, hi]
  small := fun c hc => hs c (List.mem_of_mem_drop (List.mem_of_mem_take hc))
  short := by simp; omega
set_option maxRecDepth 100000 in
set_option maxHeartbeats 400000 in
theorem redoWrite_any {fid : FuncId} {first : Array Value} {S : Nat → Prop} {lb : Option Nat} {I : Nat → World → Prop} {bit : Nat → Bool} (L : Lasts fid first S lb I bit)
    (v bv : Value) (l b : List Nat) (off i0 : Nat) (w : World) (hI : I i0 w) (hv : w.ownsRow 0 5 1 v l.length (cellsOf l)) (hb : Bytes w bv b)
    (hd : ∀ k, bv.ownBlock = some k → v.ownBlock ≠ some k ∧ ¬ S k) (hS : ∀ k, v.ownBlock = some k → ¬ S k) (hpos : 0 < b.length) (hoff : off ≤ 16777216) (hlen : b.length ≤ 1048576) (hi0 : i0 + b.length ≤ drawLim) :
    Calls Try.prog 76 #[.agg #[.int .i64 off, bv], v, .func (.func fid) first #[]] w fun e w' => ∃ v', e = .returned v' ∧
      I (redoWrite off b bit b.length 0 i0 l).2 w' ∧ RowTo S lb w w' v v' (redoWrite off b bit b.length 0 i0 l).1 := by
  obtain ⟨pb, po, pc, rfl, hpcl, hpc⟩ : ∃ pb po pc, bv = .slice (some ⟨pb, po, none⟩) b.length pc ∧ b.length ≤ pc ∧ ∀ i, i < b.length → w.cell? ⟨pb, po + i, none⟩ = some (.int .u8 (atB b i : Nat)) := by
    rcases hb.out with ⟨_, h⟩ | ⟨_, _, h⟩ | ⟨b, o, c, h, hcl, hc⟩
    · subst h; simp at hpos
    · subst h; simp at hpos
    · exact ⟨b, o, c, h, hcl, hc⟩
  have HI0 := Lib.hid hi0; clear hi0
  have HI := Lib.hid hI; have HV := Lib.hid hv; have HB := Lib.hid hb; have HD := Lib.hid hd; have HS := Lib.hid hS; have HPC := Lib.hid hpc
  have HBS := Lib.hid hb.small; have HPL := Lib.hid hpcl
  have hw1 : ∀ o, RowTo S lb (w.alloc o) (w.alloc o) v v l := fun o => RowTo.refl (ownsRow_of_heap hv fun k hk => Below.heap_alloc w o k (by
    rcases hv.2 with ⟨h, _⟩ | ⟨g, cap, cur, h, _, hg, _⟩
    · rw [h] at hk; cases hk
    · rw [h] at hk; cases hk; exact (Array.getElem?_eq_some_iff.1 hg).1))
  have HW1 := Lib.hid hw1
  clear hI hv hb hd hS hpc hw1 hpcl
  go_enter Try.func76, Try.ntmps76
  go_wp2
  obtain ⟨W, hW⟩ : ∃ W, W = w.alloc (Obj.cells #[Value.int IntKind.i64 ↑off, Value.slice (some { block := pb, off := po }) b.length pc] 144) := ⟨_, rfl⟩
  rw [← hW]
  have hWs : W.heap.size = w.heap.size + 1 := by rw [hW]; simp
  have hWb : Below w.heap.size w W := by rw [hW]; exact Below.alloc (Below.refl _ _) (Nat.le_refl _) _
  have hW0 : W.heap[w.heap.size]? = some (.cells #[Value.int IntKind.i64 ↑off, Value.slice (some { block := pb, off := po }) b.length pc] 144 (0, 0)) := by rw [hW]; exact heap_alloc_new w _
  have hRT : RowTo S lb W W v v l := by rw [hW]; exact HW1.out _
  have hIW : I i0 W := L.stay i0 w W HI.out fun k hk => hWb.block k (L.here i0 w k HI.out hk)
  have hvlt : ∀ k, v.ownBlock = some k → k < w.heap.size := fun k hk => by
    rcases HV.out.2 with ⟨h, _⟩ | ⟨g, cap, cur, h, _, hg, _⟩
    · rw [h] at hk; cases hk
    · rw [h] at hk; cases hk; exact (Array.getElem?_eq_some_iff.1 hg).1
  have hpb : pb < w.heap.size := block_lt_of_cell (HPC.out 0 hpos)
  -- what stays behind some rounds
  have keep : ∀ wr v1 l1, RowTo S lb W wr v v1 l1 → wr.heap[w.heap.size]? = W.heap[w.heap.size]? ∧ wr.heap[pb]? = w.heap[pb]? := fun wr v1 l1 h => by
    refine ⟨h.keeps (by omega) (fun e => ?_) (fun e => ?_), (h.keeps (by omega) (HD.out pb rfl).1 (fun e => (HD.out pb rfl).2 (L.own pb e))).trans (hWb.block pb hpb)⟩
    · have := hvlt _ e; omega
    · have := L.here i0 w _ HI.out (L.own _ e); omega
  have HWs := Lib.hid hWs; have HWb := Lib.hid hWb; have HW0 := Lib.hid hW0; have HRT := Lib.hid hRT; have HIW := Lib.hid hIW; have HVL := Lib.hid hvlt; have HPB := Lib.hid hpb; have KEEP := Lib.hid keep
  clear hW hWs hWb hW0 hRT hIW hvlt hpb keep
  go_loopw [1, 7] (fun v1 x wr => ∃ (k i f : Nat) (l1 : List Nat), x = .int .i64 k ∧ k ≤ b.length ∧ b.length ≤ k + f ∧ i ≤ i0 + k ∧ I i wr ∧ RowTo S lb W wr v v1 l1 ∧ redoWrite off b bit f k i l1 = redoWrite off b bit b.length 0 i0 l) (fun _ x _ => b.length - (intOf x).toNat)
  case atStart => exact ⟨0, i0, b.length, l, rfl, by omega, by omega, by omega, HIW.out, HRT.out, rfl⟩
  case round =>
    obtain ⟨k, i, f, l1, rfl, hk, hf, hik, hIr, hrt, heq⟩ := hrel
    obtain ⟨hk1, hk2⟩ := KEEP.out wr u1 l1 hrt
    have c0 : wr.cell? ⟨w.heap.size, 0, none⟩ = some (.int .i64 off) := (World.cell?_of_block hk1).trans (cells_of HW0.out 0)
    have c1 : wr.cell? ⟨w.heap.size, 1, none⟩ = some (.slice (some { block := pb, off := po }) b.length pc) := (World.cell?_of_block hk1).trans (cells_of HW0.out 1)
    have hIr' := Lib.hid hIr; have HR := Lib.hid hrt; have HE := Lib.hid heq; have HK2 := Lib.hid hk2
    clear hIr hrt heq hk1 hk2 HRT HIW HV HB
    by_cases hlt : k < b.length
    · obtain ⟨f, rfl⟩ : ∃ g, f = g + 1 := ⟨f - 1, by omega⟩
      have hki : (k : Int) < b.length := by omega
      have hm1 : Int.tmod ((off : Int) + k) 128 = (((off + k) % 128 : Nat) : Int) := by
        rw [Int.tmod_eq_emod_of_nonneg (by omega)]; omega
      have hm2 : (off + k) % 128 < 128 := Nat.mod_lt _ (by decide)
      obtain ⟨n, hn⟩ : ∃ n, n = pieceLen off b.length k := ⟨_, rfl⟩
      have hn1 : 0 < n := hn ▸ pieceLen_pos hlt
      have hn2 : n ≤ b.length - k := hn ▸ pieceLen_le _ _ _
      have hmin : ((128 : Int) - ((off + k) % 128 : Nat) = n ∧ (n : Int) ≤ (b.length : Int) - k) ∨ ((b.length : Int) - k = n ∧ ¬ (128 : Int) - ((off + k) % 128 : Nat) ≤ n) := by
        unfold pieceLen at hn; omega
      generalize (off + k) % 128 = md at *
      have HN := Lib.hid hn
      clear hn
      have stp : RowTo S lb W wr v u1 l1 := HR.out
      -- behind a round
      have next : ∀ l2 : List Nat, l2 = (if bit i then putL l1 (off + k) ((b.drop k).take n) else l1) → redoWrite off b bit f (k + n) (i + 1) l2 = redoWrite off b bit b.length 0 i0 l := by
        rintro l2 rfl
        rw [← HE.out]
        conv => rhs; unfold redoWrite
        rw [if_pos hlt, ← HN.out]
      have NEXT := Lib.hid next
      clear stp next
      have call := L.call i wr hIr'.out (by have := HI0.out; omega)
      have HIK := Lib.hid hik
      clear hik
      have CALL := Lib.hid call; clear call
      have hpl := HPL.out
      have b1 : (k : Int) + n ≤ pc := by omega
      have b2 : ¬ pc = k := by omega
      have b3 : ((k : Int) + n).toNat = k + n := by omega
      have b4 : k + n - k = n := by omega
      clear hpl
      rcases hmin with ⟨e1, e2⟩ | ⟨e1, e2⟩
      all_goals
        go_wp2
        rw [L.enter]
        refine CALL.out.mono ?_
        rintro e w2 ⟨rfl, hI2, hg2⟩
        have hS2 := fun j hj => HR.out.apart (j := j) HS.out (fun q hq => by have := L.here i0 w q HI.out hq; have := HWs.out; omega) hj
        have hr2 := HR.out.asked hg2 (fun j hj e => hS2 j hj (L.own _ e))
        obtain ⟨hq1, hq2⟩ := KEEP.out w2 u1 l1 hr2
        have d1 : w2.cell? ⟨w.heap.size, 1, none⟩ = some (.slice (some { block := pb, off := po }) b.length pc) := (World.cell?_of_block hq1).trans (cells_of HW0.out 1)
        have HI2 := Lib.hid hI2; have HR2 := Lib.hid hr2; have HS2 := Lib.hid hS2; have HQ2 := Lib.hid hq2
        clear hI2 hg2 hr2 hS2 hq1 hq2
        cases hbit : bit i
        · have HBIT := Lib.hid hbit
          clear hbit
          go_wp2
          go_roundw
          case rel => exact ⟨k + n, i + 1, f, l1, by go_num, by omega, by omega, by have := HIK.out; omega, HI2.out, HR2.out, NEXT.out l1 (by rw [HBIT.out]; rfl)⟩
          case measure => simp [intOf]; omega
        · have HBIT := Lib.hid hbit
          clear hbit
          have hbp := Bytes.sub (w := w2) (fun i hi => (World.cell?_of_block HQ2.out).trans (HPC.out i hi)) HBS.out (by unfold maxLen; omega) k (n := n) (by omega) HPL.out
          have hput := put_any u1 _ l1 ((b.drop k).take n) (off + k) w2 HR2.out.owns hbp (fun q hq hu => by
            simp only [Value.ownBlock, Option.some.injEq] at hq
            subst hq
            rcases HR2.out.moved with hm | ⟨q', hm, hq'⟩
            · rw [hm] at hu; exact (HD.out pb rfl).1 hu
            · rw [hm] at hu; cases hu; have := HPB.out; have := HWs.out; omega) (by simp; omega) (by simp; omega)
          have hca : ((off + k : Nat) : Int) = (off : Int) + k := by omega
          rw [hca] at hput
          have HPUT := Lib.hid hput
          clear hbp hput hca
          go_wp2_with fail
          refine HPUT.out.mono ?_
          rintro e w3 ⟨v2, rfl, hs⟩
          have hI3 := L.stay (i + 1) w2 w3 HI2.out fun q hq => hs.grown.block q (L.here _ w2 q HI2.out hq) (fun e => HS2.out q e.symm hq)
          have hr3 := HR2.out.step hs
          have HI3 := Lib.hid hI3; have HR3 := Lib.hid hr3
          clear hI3 hr3 hs
          go_wp2
          go_roundw
          case rel => exact ⟨k + n, i + 1, f, _, by go_num, by omega, by omega, by have := HIK.out; omega, HI3.out, HR3.out, NEXT.out _ (by rw [HBIT.out]; rfl)⟩
          case measure => simp [intOf]; omega
    · obtain rfl : k = b.length := by omega
      have heq : redoWrite off b bit b.length 0 i0 l = (l1, i) := by
        rw [← HE.out]
        cases f with
        | zero => rfl
        | succ f => unfold redoWrite; rw [if_neg hlt]
      have HEQ := Lib.hid heq
      clear heq
      go_wp2
      go_ret
      exact ⟨_, rfl, by rw [HEQ.out]; exact hIr'.out, by rw [HEQ.out]; exact HR.out.lead HWb.out⟩
end Go.Proofs.Ytajfcnaifegonaa
/- The disk: what was laid by, done again: truncate, and either. -/
namespace Go.Proofs.Ytajfcnaifegonaa
open Go Go.RowKit Go.By
def redoOp (bit : Nat → Bool) : ByteOp → Nat → List Nat → List Nat × Nat
  | .write off b, i, l => redoWrite off b bit b.length 0 i l
  | .cut n, i, l => (if bit i then fitL l n else l, i + 1)
def redoOps (bit : Nat → Bool) : List ByteOp → Nat → List Nat → List Nat × Nat
  | [], i, l => (l, i)
  | o :: os, i, l => redoOps bit os (redoOp bit o i l).2 (redoOp bit o i l).1
set_option maxRecDepth 100000 in
theorem redoCut_any {fid : FuncId} {first : Array Value} {S : Nat → Prop} {lb : Option Nat} {I : Nat → World → Prop} {bit : Nat → Bool} (L : Lasts fid first S lb I bit)
    (v : Value) (l : List Nat) (n i : Nat) (w : World) (hI : I i w) (hv : w.ownsRow 0 5 1 v l.length (cellsOf l)) (hS : ∀ k, v.ownBlock = some k → ¬ S k) (hn : n ≤ 16777216) (hi : i < drawLim) :
    Calls Try.prog 55 #[.agg #[.int .i64 n], v, .func (.func fid) first #[]] w fun e w' => ∃ v', e = .returned v' ∧
      I (redoOp bit (.cut n) i l).2 w' ∧ RowTo S lb w w' v v' (redoOp bit (.cut n) i l).1 := by
  have ho : redoOp bit (.cut n) i l = (if bit i then fitL l n else l, i + 1) := rfl
  have HO := Lib.hid ho; clear ho
  have hvlt : ∀ k, v.ownBlock = some k → k < w.heap.size := fun k hk => by
    rcases hv.2 with ⟨h, _⟩ | ⟨g, cap, cur, h, _, hg, _⟩
    · rw [h] at hk; cases hk
    · rw [h] at hk; cases hk; exact (Array.getElem?_eq_some_iff.1 hg).1
  obtain ⟨W, hW⟩ : ∃ W, W = w.alloc (Obj.cells #[Value.int IntKind.i64 ↑n] 121) := ⟨_, rfl⟩
  have hWs : W.heap.size = w.heap.size + 1 := by rw [hW]; simp
  have hWb : Below w.heap.size w W := by rw [hW]; exact Below.alloc (Below.refl _ _) (Nat.le_refl _) _
  have hW0 : W.heap[w.heap.size]? = some (.cells #[Value.int IntKind.i64 ↑n] 121 (0, 0)) := by rw [hW]; exact heap_alloc_new w _
  have hRT : RowTo S lb W W v v l := RowTo.refl (ownsRow_of_heap hv fun k hk => hWb.block k (hvlt k hk))
  have hIW : I i W := L.stay i w W hI fun k hk => hWb.block k (L.here i w k hI hk)
  have call := L.call i W hIW hi
  have hSl := fun k hk => L.here i w k hI hk
  have HS := Lib.hid hS; have HW := Lib.hid hW; have HWs := Lib.hid hWs; have HWb := Lib.hid hWb; have HW0 := Lib.hid hW0; have HRT := Lib.hid hRT; have HVL := Lib.hid hvlt; have CALL := Lib.hid call; have HSL := Lib.hid hSl
  clear hI hv hS hW hWs hWb hW0 hRT hIW hvlt call hSl
  go_enter Try.func55, Try.ntmps55
  go_wp2
  rw [L.enter, ← HW.out]
  refine CALL.out.mono ?_
  rintro e w2 ⟨rfl, hI2, hg2⟩
  have hr2 := HRT.out.asked hg2 (fun j hj e => HS.out j hj (L.own _ e))
  have hq1 : w2.heap[w.heap.size]? = W.heap[w.heap.size]? := hr2.keeps (by have := HWs.out; omega) (fun e => by have := HVL.out _ e; omega) (fun e => by have := HSL.out _ (L.own _ e); omega)
  have d1 : w2.cell? ⟨w.heap.size, 0, none⟩ = some (.int .i64 n) := (World.cell?_of_block hq1).trans (cells_of HW0.out 0)
  have HI2 := Lib.hid hI2; have HR2 := Lib.hid hr2
  clear hI2 hg2 hr2 hq1
  cases hbit : bit i
  · have HBIT := Lib.hid hbit; clear hbit
    go_wp2
    go_ret
    exact ⟨_, rfl, by rw [HO.out]; exact HI2.out, by rw [HO.out, HBIT.out]; exact HR2.out.lead HWb.out⟩
  · have HBIT := Lib.hid hbit; clear hbit
    have hfit := fit_any v l n w2 HR2.out.owns (by omega)
    have HFIT := Lib.hid hfit; clear hfit
    go_wp2_with fail
    refine HFIT.out.mono ?_
    rintro e w3 ⟨v2, rfl, hs⟩
    have hI3 := L.stay (i + 1) w2 w3 HI2.out fun q hq => hs.grown.block q (L.here _ w2 q HI2.out hq) (fun e => HS.out q e.symm hq)
    have hr3 := (HR2.out.step hs).lead HWb.out
    have HI3 := Lib.hid hI3; have HR3 := Lib.hid hr3
    clear hI3 hr3 hs
    go_wp2
    go_ret
    exact ⟨_, rfl, by rw [HO.out]; exact HI3.out, by rw [HO.out, HBIT.out]; exact HR3.out⟩
theorem redo_any {fid : FuncId} {first : Array Value} {S : Nat → Prop} {lb : Option Nat} {I : Nat → World → Prop} {bit : Nat → Bool} (L : Lasts fid first S lb I bit)
    (own : Own) (o : ByteOp) (c v : Value) (l : List Nat) (i : Nat) (w : World) (hI : I i w) (hv : w.ownsRow 0 5 1 v l.length (cellsOf l)) (ho : OpV w own c o)
    (hd : ∀ k, own k = some .ink → v.ownBlock ≠ some k ∧ ¬ S k) (hS : ∀ k, v.ownBlock = some k → ¬ S k) (hi : i + 1048576 ≤ drawLim) :
    ∃ g fs, c = .func (.func g) fs #[] ∧ (∀ args w, (callFunc g args).run Try.prog w = .ok (.enter g args) w) ∧ Calls Try.prog g (fs ++ #[v, .func (.func fid) first #[]]) w fun e w' => ∃ v', e = .returned v' ∧
      I (redoOp bit o i l).2 w' ∧ RowTo S lb w w' v v' (redoOp bit o i l).1 := by
  cases o with
  | write off b =>
    obtain ⟨bv, rfl, hb, hbk, hb0, hoff, hbl⟩ := ho
    exact ⟨_, _, rfl, by intro args w; kernel_rfl, redoWrite_any L v bv l b off i w hI hv hb (fun k hk => hd k (hbk k hk)) hS hb0 hoff hbl (by omega)⟩
  | cut n =>
    obtain ⟨rfl, hn⟩ := ho
    exact ⟨_, _, rfl, by intro args w; kernel_rfl, redoCut_any L v l n i w hI hv hS hn (by omega)⟩
end Go.Proofs.Ytajfcnaifegonaa
/- The disk: file.settle. -/
namespace Go.Proofs.Ytajfcnaifegonaa
open Go Go.RowKit Go.By
def ofFile (n : Nat) (r : Role) : Prop := r = .file n ∨ r = .fseen n ∨ r = .fkept n ∨ r = .flaid n
structure FileStep (n : Nat) (lb : Option Nat) (own own' : Own) (w w' : World) : Prop where
  turned : Turned (fun j => (∃ r, own j = some r ∧ ofFile n r) ∨ lb = some j) w w'
  same : ∀ k, k < w.heap.size → own' k = own k
  role : ∀ k r, own k = some r → own' k = some r
  new : ∀ k r, own' k = some r → own k = some r ∨ (w.heap.size ≤ k ∧ k < w'.heap.size ∧ (ofFile n r ∨ r = .ink))
theorem own_went {own : Own} {w w' : World} (here : ∀ k r, own k = some r → k < w.heap.size) {v v' : Value} {r : Role} (hv : ∀ k, v.ownBlock = some k → own k = some r)
    (hat : v'.ownBlock = v.ownBlock ∨ ∃ q, v'.ownBlock = some q ∧ w.heap.size ≤ q) (hlt : ∀ k, v'.ownBlock = some k → k < w'.heap.size) :
    ∃ own' : Own, (∀ k, k < w.heap.size → own' k = own k) ∧ (∀ k r', own k = some r' → own' k = some r') ∧ (∀ k, v'.ownBlock = some k → own' k = some r) ∧ (∀ k r', own' k = some r' → own k = some r' ∨ (w.heap.size ≤ k ∧ k < w'.heap.size ∧ r' = r)) := by
  rcases hat with h | ⟨q, h, hq⟩
  · exact ⟨own, fun _ _ => rfl, fun _ _ h => h, fun k hk => hv k (h ▸ hk), fun k r' hk => .inl hk⟩
  · refine ⟨own.add q r, fun k hk => Own.add_lt (by omega), fun k r' hk => Own.add_old here hq hk, fun k hk => ?_, fun k r' hk => ?_⟩
    · rw [h] at hk; cases hk; exact Own.add_self _ _ _
    · rcases Own.add_some hk with ⟨rfl, h'⟩ | h'
      · exact .inr ⟨hq, hlt _ h, h'⟩
      · exact .inl h'
theorem redoWrite_small {off : Nat} {b : List Nat} {bit : Nat → Bool} (hb : ∀ c ∈ b, c < 256) : ∀ (f k i : Nat) (l : List Nat), (∀ c ∈ l, c < 256) → ∀ c ∈ (redoWrite off b bit f k i l).1, c < 256
  | 0, _, _, _, h => h
  | f + 1, k, i, l, h => by
    unfold redoWrite
    split
    · refine redoWrite_small hb f _ _ _ ?_
      split
      · exact putL_small h fun c hc => hb c (List.mem_of_mem_drop (List.mem_of_mem_take hc))
      · exact h
    · exact h
theorem redoOp_small {bit : Nat → Bool} {w : World} {own : Own} {c : Value} {o : ByteOp} (ho : OpV w own c o) {i : Nat} {l : List Nat} (h : ∀ c ∈ l, c < 256) : ∀ c ∈ (redoOp bit o i l).1, c < 256 := by
  cases o with
  | write off b => obtain ⟨bv, _, hb, _⟩ := ho; exact redoWrite_small hb.small _ _ _ _ h
  | cut n =>
    show ∀ c ∈ (if bit i then fitL l n else l), c < 256
    split
    · exact fitL_small h
    · exact h
theorem Turned.setCell {S : Nat → Prop} {w w' : World} (h : Turned S w w') {a : Nat} (hS : S a) (i : Nat) (v : Value) : Turned S w (w'.setCell ⟨a, i, none⟩ v) :=
  ⟨h.os, h.tape, h.output, by simp; exact h.size, fun k hk hn => (heap_setCell_other w' ⟨a, i, none⟩ k v (fun e => hn (by have e' : k = a := e; rw [e']; exact hS))).trans (h.block k hk hn)⟩
structure Settling (lb : Option Nat) (w wr : World) (fb : Nat) (sv kv kv1 lv : Value) (l1 : List Nat) : Prop where
  heap : wr.heap[fb]? = some (.cells #[sv, kv1, lv] 106 (0, 0))
  owns : wr.ownsRow 0 5 1 kv1 l1.length (cellsOf l1)
  turned : Turned (fun j => j = fb ∨ kv.ownBlock = some j ∨ lb = some j) w wr
  moved : kv1.ownBlock = kv.ownBlock ∨ ∃ q, kv1.ownBlock = some q ∧ w.heap.size ≤ q
  small : ∀ c ∈ l1, c < 256
theorem Settling.step {S : Nat → Prop} {lb : Option Nat} {w wr w2 : World} {fb : Nat} {sv kv kv1 kv2 lv : Value} {l1 l2 : List Nat} (h : Settling lb w wr fb sv kv kv1 lv l1) (k : RowTo S lb wr w2 kv1 kv2 l2)
    (h1 : kv.ownBlock ≠ some fb) (h2 : lb ≠ some fb) (h3 : fb < w.heap.size) (hs : ∀ c ∈ l2, c < 256) : Settling lb w (w2.setCell ⟨fb, 1, none⟩ kv2) fb sv kv kv2 lv l2 := by
  have hne : kv1.ownBlock ≠ some fb := by
    rcases h.moved with hm | ⟨q, hm, hq⟩
    · rw [hm]; exact h1
    · rw [hm]; intro e; cases e; omega
  have hfb : w2.heap[fb]? = some (.cells #[sv, kv1, lv] 106 (0, 0)) := (k.keeps (Nat.lt_of_lt_of_le h3 h.turned.size) hne h2).trans h.heap
  obtain ⟨g1, g2⟩ := set_heap hfb 1 kv2
  have hmv : kv2.ownBlock = kv.ownBlock ∨ ∃ q, kv2.ownBlock = some q ∧ w.heap.size ≤ q := by
    rcases k.moved with hm | ⟨q, hm, hq⟩
    · rw [hm]; exact h.moved
    · exact .inr ⟨q, hm, Nat.le_trans h.turned.size hq⟩
  have hne2 : kv2.ownBlock ≠ some fb := by
    rcases hmv with hm | ⟨q, hm, hq⟩
    · rw [hm]; exact h1
    · rw [hm]; intro e; cases e; omega
  refine ⟨g1, ownsRow_of_heap k.owns fun j hj => g2 j (fun e => hne2 (e ▸ hj)), Turned.setCell (h.turned.trans k.turned fun j hj => ?_) (.inl rfl) _ _, hmv, hs⟩
  rcases hj with hj | hj
  · rcases h.moved with hm | ⟨q, hm, hq⟩
    · exact .inl (.inr (.inl (hm ▸ hj)))
    · rw [hm] at hj; cases hj; exact .inr hq
  · exact .inl (.inr (.inr hj))
end Go.Proofs.Ytajfcnaifegonaa
/- The disk: file.alter. -/
namespace Go.Proofs.Ytajfcnaifegonaa
open Go Go.RowKit Go.By
theorem byteOpInfo : (Try.prog.info? 141).map (fun i => (i.zero, i.size, i.bytes)) = some (some .nilFunc, 1, 8) := by kernel_rfl
theorem byteOps : Try.prog.underlying 104 = some (.slice 141) := by kernel_rfl
def allBits : Nat → Bool := fun _ => true
theorem all_lasts : Lasts 74 #[] (fun _ => False) none (fun _ _ => True) allBits := always_lasts
theorem altered {own : Own} {n fb : Nat} {F : FileA} {o : ByteOp} {w w1 w2 w3 w4 : World} {sv kv lv sv1 lv1 c : Value} {cs : List Value} {l1 : List Nat} {ob : Obj} (h1 : w.heap[fb]? = some (.cells #[sv, kv, lv] 106 (0, 0)))
    (h2 : RowV w own (.fseen n) sv F.seen) (h3 : RowV w own (.fkept n) kv F.kept) (h5 : ∀ k, lv.ownBlock = some k → own k = some (.flaid n)) (h6 : OpsV w own cs F.laid) (hr : own fb = some (.file n)) (here : ∀ k r, own k = some r → k < w.heap.size) (ho : OpV w own c o)
    (hrt : RowTo (fun _ => False) none w w1 sv sv1 l1) (hs : ∀ c ∈ l1, c < 256) (e2 : w2 = w1.setCell ⟨fb, 0, none⟩ sv1) (e3 : w3 = w2.alloc ob)
    (hown : w4.ownsRow 0 141 1 lv1 (F.laid.length + 1) (cs ++ [c])) (hgrow : w3.grownBy w4 lv.ownBlock) (hat : lv1.ownBlock = lv.ownBlock ∨ lv1.ownBlock = some w3.heap.size) :
    w4.heap[fb]? = some (.cells #[sv1, kv, lv] 106 (0, 0)) ∧
    ∃ own', FileIs (w4.setCell ⟨fb, 2, none⟩ lv1) own' n fb { F with seen := l1, laid := F.laid ++ [o] } ∧ FileStep n none own own' w (w4.setCell ⟨fb, 2, none⟩ lv1) := by
  have hfb := here fb _ hr
  have hsf : sv.ownBlock ≠ some fb := fun e => by have := h2.role fb e; rw [hr] at this; cases this
  have hlf : lv.ownBlock ≠ some fb := fun e => by have := h5 fb e; rw [hr] at this; cases this
  have hs1 : ∀ g, sv1.ownBlock = some g → g ≠ fb ∧ lv.ownBlock ≠ some g := fun g hg => by
    rcases hrt.moved with hm | ⟨q, hm, hq⟩
    · rw [hm] at hg
      have hg' := h2.role g hg
      exact ⟨fun e => (by rw [e, hr] at hg'; cases hg'), fun e => (by have := h5 g e; rw [hg'] at this; cases this)⟩
    · rw [hm] at hg; cases hg
      exact ⟨by omega, fun e => (by have := here _ _ (h5 _ e); omega)⟩
  have z1 := hrt.turned.size
  have z2 : w2.heap.size = w1.heap.size := by rw [e2]; simp
  have z3 : w3.heap.size = w1.heap.size + 1 := by rw [e3]; simp [z2]
  have z4 := hgrow.size
  have z5 : (w4.setCell ⟨fb, 2, none⟩ lv1).heap.size = w4.heap.size := by simp
  have f1 : w1.heap[fb]? = some (.cells #[sv, kv, lv] 106 (0, 0)) := (hrt.keeps hfb hsf (by simp)).trans h1
  obtain ⟨g1, g2⟩ := set_heap f1 0 sv1
  rw [← e2] at g1 g2
  have f3 : w3.heap[fb]? = some (.cells #[sv1, kv, lv] 106 (0, 0)) := by rw [e3, Below.heap_alloc w2 _ _ (by omega)]; simpa using g1
  have f4 : w4.heap[fb]? = some (.cells #[sv1, kv, lv] 106 (0, 0)) := (hgrow.block fb (by omega) (fun e => hlf e.symm)).trans f3
  obtain ⟨g3, g4⟩ := set_heap f4 2 lv1
  have hT : Turned (fun j => j = fb ∨ sv.ownBlock = some j ∨ lv.ownBlock = some j) w (w4.setCell ⟨fb, 2, none⟩ lv1) := by
    refine Turned.setCell (((Turned.alloc (Turned.setCell (hrt.turned.weaken (S' := fun j => j = fb ∨ sv.ownBlock = some j ∨ lv.ownBlock = some j) ?_) (.inl rfl) 0 sv1) ob).trans (w2 := w4) (S' := fun k => lv.ownBlock = some k) ?_ ?_)) (.inl rfl) 2 lv1
    · rintro k (h | h)
      · exact .inr (.inl h)
      · cases h
    · rw [← e2, ← e3]; exact Turned.of_grown hgrow
    · exact fun j hj => .inl (.inr (.inr hj))
  have hs1w : ∀ g, sv1.ownBlock = some g → (w4.setCell ⟨fb, 2, none⟩ lv1).heap[g]? = w1.heap[g]? ∧ g < w1.heap.size := fun g hg => by
    have hlt : g < w1.heap.size := by
      rcases hrt.owns.2 with ⟨h, _⟩ | ⟨g', cap, cur, h, _, hg', _⟩
      · rw [h] at hg; cases hg
      · rw [h] at hg; cases hg; exact (Array.getElem?_eq_some_iff.1 hg').1
    refine ⟨?_, hlt⟩
    rw [g4 g (hs1 g hg).1, hgrow.block g (by omega) (fun e => (hs1 g hg).2 e.symm), e3, Below.heap_alloc w2 _ _ (by omega), g2 g (hs1 g hg).1]
  obtain ⟨o1, a1, a2, a3, a4⟩ := own_went here h2.role hrt.moved (fun k hk => (hs1w k hk).2)
  have here1 : ∀ k r, o1 k = some r → k < w3.heap.size := fun k r hk => by
    rcases a4 k r hk with h | ⟨_, h, _⟩
    · have := here k r h; omega
    · omega
  have hlv1 : ∀ k, lv1.ownBlock = some k → k ≠ fb ∧ k < w4.heap.size := fun k hk => by
    refine ⟨?_, ?_⟩
    · rcases hat with hm | hm
      · rw [hm] at hk; rintro rfl; exact hlf hk
      · rw [hm] at hk; cases hk; omega
    · rcases hown.2 with ⟨h, _⟩ | ⟨g', cap, cur, h, _, hg', _⟩
      · rw [h] at hk; cases hk
      · rw [h] at hk; cases hk; exact (Array.getElem?_eq_some_iff.1 hg').1
  obtain ⟨o2, b1, b2, b3, b4⟩ := own_went here1 (v := lv) (v' := lv1) (r := .flaid n) (w' := w4) (fun k hk => a2 k _ (h5 k hk)) (by
    rcases hat with h | h
    · exact .inl h
    · exact .inr ⟨_, h, Nat.le_refl _⟩) (fun k hk => (hlv1 k hk).2)
  have keep : ∀ k r, own k = some r → r ≠ .file n → r ≠ .fseen n → r ≠ .flaid n → (w4.setCell ⟨fb, 2, none⟩ lv1).heap[k]? = w.heap[k]? := fun k r hk q1 q2 q3 => hT.block k (here k r hk) (by
    rintro (rfl | h | h)
    · rw [hr] at hk; cases hk; exact q1 rfl
    · have := h2.role k h; rw [hk] at this; cases this; exact q2 rfl
    · have := h5 k h; rw [hk] at this; cases this; exact q3 rfl)
  have stay : Stay own o2 (· = .ink) w (w4.setCell ⟨fb, 2, none⟩ lv1) := ⟨fun k r h => b2 k r (a2 k r h), fun k r hk hr' => keep k r hk (by rw [hr']; simp) (by rw [hr']; simp) (by rw [hr']; simp)⟩
  refine ⟨f4, o2, ⟨⟨sv1, kv, lv1, cs ++ [c], by simpa using g3, ⟨ownsRow_of_heap hrt.owns fun k hk => (hs1w k hk).1, fun k hk => b2 k _ (a3 k hk), hs⟩,
    ⟨ownsRow_of_heap h3.owns fun k hk => keep k _ (h3.role k hk) (by simp) (by simp) (by simp), fun k hk => b2 k _ (a2 k _ (h3.role k hk)), h3.small⟩, ?_, b3, OpsV.snoc (ho.stay stay rfl) (h6.stay stay rfl)⟩, b2 fb _ (a2 fb _ hr), fun _ _ h0 => absurd h0 (by simp)⟩, ⟨hT.weaken ?_, ?_, fun k r h => b2 k r (a2 k r h), ?_⟩⟩
  · simp only [List.length_append, List.length_cons, List.length_nil, Nat.zero_add]
    exact ownsRow_of_heap hown fun k hk => g4 k (hlv1 k hk).1
  · rintro k (rfl | e | e)
    · exact .inl ⟨_, hr, .inl rfl⟩
    · exact .inl ⟨_, h2.role k e, .inr (.inl rfl)⟩
    · exact .inl ⟨_, h5 k e, .inr (.inr (.inr rfl))⟩
  · intro k hk
    rw [b1 k (by omega), a1 k hk]
  · intro k r hk
    rcases b4 k r hk with h' | ⟨q1, q2, rfl⟩
    · rcases a4 k r h' with h' | ⟨q1, q2, rfl⟩
      · exact .inl h'
      · exact .inr ⟨q1, by omega, .inl (.inr (.inl rfl))⟩
    · exact .inr ⟨by omega, by omega, .inl (.inr (.inr (.inr rfl)))⟩
set_option maxRecDepth 100000 in
theorem alterFile_any (own : Own) (n fb : Nat) (F : FileA) (c : Value) (o : ByteOp) (w : World) (h : FileIs w own n fb F) (ho : OpV w own c o)
    (here : ∀ k r, own k = some r → k < w.heap.size) (hl : F.laid.length < 1000000) :
    Calls Try.prog 54 #[.pointer (some ⟨fb, 0, none⟩), c] w fun e w' => e = .returned (.int .i64 (((redoOp allBits o 0 F.seen).1.length : Int) - F.seen.length)) ∧
      ∃ own', FileIs w' own' n fb { F with seen := (redoOp allBits o 0 F.seen).1, laid := F.laid ++ [o] } ∧ FileStep n none own own' w w' := by
  obtain ⟨⟨sv, kv, lv, cs, h1, h2, h3, h4, h5, h6⟩, hr⟩ := h
  have hfb := here fb _ hr
  have hsf : sv.ownBlock ≠ some fb := fun e => by have := h2.role fb e; rw [hr] at this; cases this
  obtain ⟨gf, fs, rfl, hent, hcall⟩ := redo_any all_lasts own o c sv F.seen 0 w trivial h2.owns ho (fun q hq => ⟨fun e => (by have := h2.role q e; rw [hq] at this; cases this), fun h => h⟩) (fun _ _ h => h) (by unfold drawLim; omega)
  obtain ⟨ps, cps, hsv⟩ : ∃ p c, sv = .slice p F.seen.length c := by
    rcases h2.owns.2 with ⟨h, h2⟩ | ⟨g, cap, _, h, _⟩
    · exact ⟨none, 0, by rw [h, h2]⟩
    · exact ⟨_, cap, h⟩
  have c0 : w.cell? ⟨fb, 0, none⟩ = some sv := cells_of h1 0
  have hrest : ∀ w1 sv1 l1, RowTo (fun _ => False) none w w1 sv sv1 l1 → w1.heap[fb]? = some (.cells #[sv, kv, lv] 106 (0, 0)) := fun w1 sv1 l1 h => (h.keeps hfb hsf (by simp)).trans h1
  have HREST := Lib.hid hrest; have HO := Lib.hid ho; have HCALL := Lib.hid hcall; have HFB := Lib.hid hfb; have HSF := Lib.hid hsf; have HR := Lib.hid hr; have HERE := Lib.hid here
  have H1 := Lib.hid h1; have H2 := Lib.hid h2; have H3 := Lib.hid h3; have H4 := Lib.hid h4; have H5 := Lib.hid h5; have H6 := Lib.hid h6
  clear hrest ho hcall hfb hsf hr here h1 h2 h3 h4 h5 h6
  subst hsv
  go_enter Try.func54, Try.ntmps54
  go_wp2_with fail
  refine HCALL.out.mono ?_
  rintro e w1 ⟨sv1, rfl, _, hrt⟩
  have f1 := HREST.out w1 sv1 _ hrt
  have g1 : w1.cell? ⟨fb, 0, none⟩ = some (.slice ps F.seen.length cps) := cells_of f1 0
  have g2 : w1.frozen? ⟨fb, 0, none⟩ = false := free_of f1 0
  obtain ⟨g5, g6⟩ := set_heap f1 0 sv1
  have g7 : (w1.setCell ⟨fb, 0, none⟩ sv1).cell? ⟨fb, 2, none⟩ = some lv := (cells_of g5 2).trans (by simp)
  have HRT := Lib.hid hrt; have G5 := Lib.hid g5
  have hsm := redoOp_small (bit := allBits) HO.out (i := 0) H2.out.small
  have HSM := Lib.hid hsm
  have ho4 : (w1.setCell ⟨fb, 0, none⟩ sv1).ownsRow 0 141 1 lv F.laid.length cs := ownsRow_of_heap H4.out fun k hk => (g6 k (by
    rintro rfl; have := H5.out k hk; rw [HR.out] at this; cases this)).trans (hrt.keeps (HERE.out k _ (H5.out k hk)) (fun e => by have := H2.out.role k e; rw [H5.out k hk] at this; cases this) (by simp))
  have HO4 := Lib.hid ho4
  obtain ⟨p1, cp1, hsv1⟩ : ∃ p c, sv1 = .slice p (redoOp allBits o 0 F.seen).1.length c := by
    rcases hrt.owns.2 with ⟨h, h2⟩ | ⟨g, cap, _, h, _⟩
    · exact ⟨none, 0, by rw [h, h2]⟩
    · exact ⟨_, cap, h⟩
  clear hrt g5 g6 hsm ho4
  subst hsv1
  obtain ⟨i0, hi, hz0, hz1, hz2⟩ := info_parts byteOpInfo
  have HI := Lib.hid hi; have Z0 := Lib.hid hz0; have Z1 := Lib.hid hz1; have Z2 := Lib.hid hz2
  clear hi hz0 hz1 hz2
  obtain ⟨sv1, hsv1⟩ : ∃ v, v = (Value.slice p1 (redoOp allBits o 0 F.seen).1.length cp1) := ⟨_, rfl⟩
  have g8 : (w1.setCell ⟨fb, 0, none⟩ (.slice p1 (redoOp allBits o 0 F.seen).1.length cp1)).heap.size = w1.heap.size := by simp
  have G8 := Lib.hid g8; clear g8
  go_wp2_with (at_builtin; refine wpList_append_own_at _ rfl (.tmp 24) (.tmp 26) 104 rfl 0 141 i0 .nilFunc 1 8 byteOps HI.out Z0.out Z1.out Z2.out rfl (by decide) lv F.laid.length cs rfl (HO4.out.alloc _) ⟨w1.heap.size, 0, none⟩ 1 1 [.func (.func gf) fs #[]] rfl rfl ?c1 ?c2 ?c3 ?c4 ?c5 ?c6)
  case c1 =>
    intro j u hu
    match j with
    | 0 =>
      simp at hu; subst hu
      have := World.cell?_alloc_new (w1.setCell ⟨fb, 0, none⟩ (.slice p1 (redoOp allBits o 0 F.seen).1.length cp1)) #[.func (.func gf) fs #[]] 141 0
      rw [G8.out] at this
      exact this
    | j + 1 => simp at hu
  case c2 => intro u hu; simp at hu; subst hu; rfl
  case c3 => unfold maxLen; omega
  case c4 => omega
  case c5 => omega
  intro v2 w4 hown hgrow _ hat
  have fin := altered H1.out H2.out H3.out H5.out H6.out HR.out HERE.out HO.out HRT.out HSM.out rfl rfl hown hgrow (by simpa using hat)
  obtain ⟨f4, hfin⟩ := fin
  have FIN := Lib.hid hfin
  obtain ⟨p2, c2, rfl⟩ : ∃ p c, v2 = .slice p (F.laid.length + 1) c := by
    rcases hown.2 with ⟨_, h⟩ | ⟨g, c, _, h, _⟩
    · omega
    · exact ⟨_, c, h⟩
  have g9 : w4.cell? ⟨fb, 2, none⟩ = some lv := cells_of f4 2
  have g10 : w4.frozen? ⟨fb, 2, none⟩ = false := free_of f4 2
  obtain ⟨q1, q2⟩ := set_heap f4 2 (.slice p2 (F.laid.length + 1) c2)
  have g11 : (w4.setCell ⟨fb, 2, none⟩ (.slice p2 (F.laid.length + 1) c2)).cell? ⟨fb, 0, none⟩ = some (.slice p1 (redoOp allBits o 0 F.seen).1.length cp1) := (cells_of q1 0).trans (by simp)
  have hlen : (redoOp allBits o 0 F.seen).1.length ≤ 9223372036854775807 := by
    rcases HRT.out.owns.2 with ⟨_, h2⟩ | ⟨g, cap, _, h, _, _, h2, h3, _⟩
    · omega
    · unfold maxLen at h3; omega
  have hlen2 : F.seen.length ≤ 9223372036854775807 := by
    rcases H2.out.owns.2 with ⟨_, h2⟩ | ⟨g, cap, _, h, _, _, h2, h3, _⟩
    · omega
    · unfold maxLen at h3; omega
  clear hown hgrow hat hfin q1 q2 f4
  go_wp2
  go_ret
  exact ⟨rfl, FIN.out⟩
end Go.Proofs.Ytajfcnaifegonaa
/- The disk: Sync. -/
namespace Go.Proofs.Ytajfcnaifegonaa
open Go Go.RowKit Go.By
def DiskA.withFile (D : DiskA) (n : Nat) (F : FileA) : DiskA := { D with cont := fun k => if k = n then F else D.cont k }
theorem DiskA.withFile_ok {D : DiskA} (h : D.Ok) (n : Nat) (F : FileA) : (D.withFile n F).Ok := ⟨h.seenIn, h.keptIn, h.laidIn, h.made⟩
theorem DiskA.used_ok {D : DiskA} (h : D.Ok) (u : Int) : ({ D with used := u } : DiskA).Ok := ⟨h.seenIn, h.keptIn, h.laidIn, h.made⟩
theorem DiskA.begin_ok {D : DiskA} (h : D.Ok) (m : Bool) : (D.begin m).1.Ok := by
  unfold DiskA.begin; split <;> exact ⟨h.seenIn, h.keptIn, h.laidIn, h.made⟩
theorem DiskA.begin_same (D : DiskA) (m : Bool) : (D.begin m).1.seen = D.seen ∧ (D.begin m).1.kept = D.kept ∧ (D.begin m).1.laid = D.laid ∧ (D.begin m).1.fm = D.fm ∧ (D.begin m).1.cont = D.cont ∧ (D.begin m).1.room = D.room ∧ (D.begin m).1.used = D.used ∧ (D.begin m).1.made = D.made ∧ (D.begin m).1.ops = D.ops + 1 ∧ (D.begin m).1.left ≤ D.left := by
  unfold DiskA.begin; split
  · exact ⟨rfl, rfl, rfl, rfl, rfl, rfl, rfl, rfl, rfl, Nat.zero_le _⟩
  · exact ⟨rfl, rfl, rfl, rfl, rfl, rfl, rfl, rfl, rfl, Nat.sub_le _ _⟩
theorem FileStep.keeps {n : Nat} {lb : Option Nat} {own own' : Own} {w w' : World} (hs : FileStep n lb own own' w w') (here : ∀ k r, own k = some r → k < w.heap.size) (hlb : ∀ k r, own k = some r → lb ≠ some k) :
    Stay own own' (fun r => ¬ ofFile n r) w w' := ⟨hs.role, fun k r hk hr => hs.turned.block k (here k r hk) (by
      rintro (⟨r', h1, h2⟩ | h)
      · rw [hk] at h1; cases h1; exact hr h2
      · exact hlb k r hk h)⟩
theorem FileStep.steps {n : Nat} {own own' : Own} {w w' : World} (hs : FileStep n none own own' w w') : Steps own own' w w' :=
  ⟨hs.turned.os, hs.turned.tape, hs.turned.output, hs.turned.size, fun k hk hn => hs.turned.block k hk (by
    rintro (⟨r, h1, h2⟩ | h)
    · rcases hn with hn | hn
      · rw [hn] at h1; cases h1
      · rw [hn] at h1; cases h1; rcases h2 with h | h | h | h <;> cases h
    · cases h), hs.same⟩
theorem DiskIs.filed {w w' : World} {own own' : Own} {a n fb : Nat} {D : DiskA} {F : FileA} {lb : Option Nat} (h : DiskIs w own a D) (hn : Mp.get D.fm n = some fb) (hf : FileIs w' own' n fb F) (hs : FileStep n lb own own' w w') (hlb : ∀ k r, own k = some r → lb ≠ some k) :
    DiskIs w' own' a (D.withFile n F) := by
  have hst := hs.keeps h.here hlb
  obtain ⟨ms, mk, mf, lv, h1, h2⟩ := h.out
  have nf : ∀ r : Role, (∀ m, r ≠ .file m) → (∀ m, r ≠ .fseen m) → (∀ m, r ≠ .fkept m) → (∀ m, r ≠ .flaid m) → ¬ ofFile n r := fun r q1 q2 q3 q4 h => by
    rcases h with h | h | h | h
    · exact q1 n h
    · exact q2 n h
    · exact q3 n h
    · exact q4 n h
  refine ⟨⟨ms, mk, mf, lv, (hst.block a _ h.role (nf _ (by simp) (by simp) (by simp) (by simp))).trans h1, ?_⟩, hs.role a _ h.role, fun k hk => ?_, fun k r hk => ?_⟩
  · refine ⟨h2.seen.stay hst (nf _ (by simp) (by simp) (by simp) (by simp)), h2.kept.stay hst (nf _ (by simp) (by simp) (by simp) (by simp)), ownsRow_of_heap h2.laid fun k hk => hst.block k _ (h2.laidR k hk) (nf _ (by simp) (by simp) (by simp) (by simp)),
      fun k hk => hs.role k _ (h2.laidR k hk), h2.files.stay hst (nf _ (by simp) (by simp) (by simp) (by simp)), fun m fb' hm => ?_, h2.bare, h2.full, h2.bareL⟩
    by_cases he : m = n
    · subst he
      have e : fb = fb' := by
        have hm' : Mp.get D.fm m = some fb' := hm
        rw [hn] at hm'; exact Option.some.inj hm'
      subst e
      show FileIs w' own' m fb (if m = m then F else D.cont m)
      rw [if_pos rfl]; exact hf
    · show FileIs w' own' m fb' (if m = n then F else D.cont m)
      rw [if_neg he]
      have hne : ∀ r, (r = Role.file m ∨ r = .fseen m ∨ r = .fkept m ∨ r = .flaid m ∨ r = .ink) → ¬ ofFile n r := by
        rintro r (rfl | rfl | rfl | rfl | rfl) <;> unfold ofFile <;> simp [he]
      exact (h2.each m fb' hm).stay hst (hne _ (.inl rfl)) (hne _ (.inr (.inl rfl))) (hne _ (.inr (.inr (.inl rfl)))) (hne _ (.inr (.inr (.inr (.inl rfl))))) (hne _ (.inr (.inr (.inr (.inr rfl)))))
  · rcases hs.new k _ hk with h' | ⟨_, _, h' | h'⟩
    · exact h.only k h'
    · exact absurd h' (nf _ (by simp) (by simp) (by simp) (by simp))
    · cases h'
  · rcases hs.new k _ hk with h' | ⟨_, h', _⟩
    · exact Nat.lt_of_lt_of_le (h.here k r h') hs.turned.size
    · exact h'
def Filed (own : Own) (a : Nat) (D1 : DiskA) (err : Int) (s : ByteArray) (post : Nat → Int → DiskA → Prop) (w : World) (e : Ending) (w' : World) : Prop :=
  ∃ own', Steps own own' w w' ∧ ((err ≠ 0 ∧ e = .returned (.int .i64 err) ∧ DiskIs w' own' a D1) ∨ (err = 0 ∧ Mp.get D1.seen s = none ∧ e = .returned (.int .i64 3) ∧ DiskIs w' own' a D1) ∨
    (err = 0 ∧ ∃ n x D2, Mp.get D1.seen s = some n ∧ post n x D2 ∧ e = .returned (.int .i64 x) ∧ DiskIs w' own' a D2))
def FileA.settle (F : FileA) : FileA := { F with kept := (redoOps allBits F.laid 0 F.kept).1, laid := [] }
end Go.Proofs.Ytajfcnaifegonaa
/- The disk: hasRoom, Truncate. -/
namespace Go.Proofs.Ytajfcnaifegonaa
open Go Go.RowKit Go.By
def DiskA.hasRoom (D : DiskA) (n : Nat) (size : Int) : Bool := decide (size - ((D.cont n).seen.length : Int) ≤ 0) || decide (size - ((D.cont n).seen.length : Int) ≤ D.room - D.used)
set_option maxRecDepth 100000 in
theorem hasRoom_any (own : Own) (a n fb : Nat) (D : DiskA) (size : Int) (w : World) (h : DiskIs w own a D) (hn : Mp.get D.fm n = some fb) (hr : 0 ≤ D.room ∧ D.room ≤ 9223372036854775807) (hu : 0 ≤ D.used ∧ D.used ≤ 4611686018427387904) (hsz : 0 ≤ size ∧ size ≤ 4611686018427387904) :
    Calls Try.prog 53 #[.pointer (some ⟨a, 0, none⟩), .pointer (some ⟨fb, 0, none⟩), .int .i64 size] w fun e w' => e = .returned (.bool (D.hasRoom n size)) ∧ w'.heap = w.heap ∧ DiskIs w' own a D ∧ Steps own own w w' := by
  have hfin : ∀ q, (w.drewN q).heap = w.heap ∧ DiskIs (w.drewN q) own a D ∧ Steps own own w (w.drewN q) := fun q => by
    have hh : (w.drewN q).heap = w.heap := rfl
    have hst : Steps own own w (w.drewN q) := ⟨rfl, rfl, rfl, Nat.le_refl _, fun k _ _ => rfl, fun _ _ => rfl⟩
    exact ⟨hh, h.turn (fun k _ => rfl) (Nat.le_refl _) (fun ms mk mf lv q1 q2 => ⟨ms, mk, mf, lv, q1, q2⟩), hst⟩
  have HFIN := Lib.hid hfin; clear hfin
  obtain ⟨ms, mk, mf, lv, h1, h2⟩ := h.out
  obtain ⟨⟨sv, kv, lv', cs, f1, f2, f3, f4, f5, f6⟩, fr⟩ := h2.each n fb hn
  have g0 : w.cell? ⟨a, 0, none⟩ = some (.int .i64 D.room) := cells_of h1 0
  have g1 : w.cell? ⟨a, 1, none⟩ = some (.int .i64 D.used) := cells_of h1 1
  have g2 : w.cell? ⟨fb, 0, none⟩ = some sv := cells_of f1 0
  have hlen : (D.cont n).seen.length ≤ maxLen := by
    rcases f2.owns.2 with ⟨_, h2⟩ | ⟨g, cap, _, h, _, _, h2, h3, _⟩
    · omega
    · omega
  obtain ⟨ps, cps, rfl⟩ : ∃ p c, sv = .slice p (D.cont n).seen.length c := by
    rcases f2.owns.2 with ⟨h, h2⟩ | ⟨g, cap, _, h, _⟩
    · exact ⟨none, 0, by rw [h, h2]⟩
    · exact ⟨_, cap, h⟩
  have hm : ((D.cont n).seen.length : Int) ≤ 9223372036854775807 := by unfold maxLen at hlen; omega
  have hdef : D.hasRoom n size = (decide (size - ((D.cont n).seen.length : Int) ≤ 0) || decide (size - ((D.cont n).seen.length : Int) ≤ D.room - D.used)) := rfl
  have HDEF := Lib.hid hdef
  clear h h1 h2 f1 f2 f3 f4 f5 f6 fr hn hlen hdef
  obtain ⟨hr1, hr2⟩ := hr
  obtain ⟨hu1, hu2⟩ := hu
  obtain ⟨hs1, hs2⟩ := hsz
  generalize D.hasRoom n size = hb at *
  generalize (D.cont n).seen.length = len at *
  by_cases h1 : size - (len : Int) ≤ 0
  · have e : hb = true := by rw [HDEF.out]; simp [h1]
    subst e
    clear HDEF
    go_enter Try.func53, Try.ntmps53
    go_wp2
    go_quiet (fail)
    go_wp2
    go_ret
    exact ⟨rfl, HFIN.out _⟩
  · have hw : IntKind.i64.wrap (D.room - D.used) = D.room - D.used := IntWalk.i64_in _ (by omega)
    have d1 : decide (size - (len : Int) ≤ 0) = false := by simp [h1]
    by_cases h2 : size - (len : Int) ≤ D.room - D.used
    · have e : hb = true := by rw [HDEF.out]; simp [h2]
      subst e
      clear HDEF
      first
        | have d2 : decide (size - (len : Int) ≤ D.room - D.used) = true := decide_eq_true h2
        | have d2 : decide (size - (len : Int) ≤ D.room - D.used) = false := decide_eq_false h2
      go_enter Try.func53, Try.ntmps53
      go_wp2
      go_quiet (fail)
      go_wp2
      go_ret
      exact ⟨rfl, HFIN.out _⟩
    · have e : hb = false := by rw [HDEF.out]; simp [h1, h2]
      subst e
      clear HDEF
      first
        | have d2 : decide (size - (len : Int) ≤ D.room - D.used) = true := decide_eq_true h2
        | have d2 : decide (size - (len : Int) ≤ D.room - D.used) = false := decide_eq_false h2
      go_enter Try.func53, Try.ntmps53
      go_wp2
      go_quiet (fail)
      go_wp2
      go_ret
      exact ⟨rfl, HFIN.out _⟩
end Go.Proofs.Ytajfcnaifegonaa
