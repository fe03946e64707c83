/- The disk: a file's bytes: fit, put. -/
import Derived.Test.YtldkeelgnfegeaaGreatMDskG
import Derived.Test.YtldkeelgnfegeaaGreatRow

namespace Go.Proofs.YtldkeelgnfegeaaGreat
open Go Go.RowKit Go.By

theorem bytesT : ByT Tryz.prog 23 5 := ⟨by kernel_rfl, by kernel_rfl, by kernel_rfl⟩

theorem run_zeros_op {P : Program} {w : World} {ops : Array Oper} {rest : List Oper} {o : Oper} {a : Act} {Q : Exit → Act → World → Prop} (hgd : o.guard = none) (s x : Operand) {t e ti : TypeId} (T : ByT P t e) {k : IntKind} (hti : P.underlying ti = some (.int k))
    (ho : o.op = .call { callee := .builtin .append, args := #[s, x], argTypes := #[t, ti] }) (v : Value) (l : List Nat) (hs : a.eval s = v) (hown : w.ownsRow 0 e 1 v l.length (cellsOf l)) (n : Nat) (hx : a.eval x = .int .i64 n) (hb : l.length + n ≤ 140737488355328)
    (h : ∀ v' w', RowStep w w' e v v' (l ++ List.replicate n 0) → wpList P ops Q rest (a.put o.dst v') w') : wpList P ops Q (o :: rest) a w := by
  refine wpList_plain hgd fun K hK => ?_
  obtain ⟨v', w', hr, h1, h2, h3⟩ := run_append_zeros (ty := o.type) T hti 0 v l hown n hb (Nat.zero_le _)
  unfold Oper.wp execOp
  simp only [ho, resolve, invoke, builtin, Sem.run_bind, Sem.run_pure, Result.andThen_ok, List.map_toArray, List.map_cons, List.map_nil, hs, hx, hr]
  refine hK _ _ (h v' w' ⟨?_, h2, ?_⟩)
  · simpa using h1
  · rcases h3 with h3 | h3
    · exact .inl h3
    · exact .inr ⟨_, h3, Nat.le_refl _⟩

set_option maxRecDepth 100000 in
theorem fit_any (v : Value) (l : List Nat) (n : Nat) (w : World) (hv : w.ownsRow 0 5 1 v l.length (cellsOf l)) (hn : n ≤ 16777216 + 16777216) :
    Calls Tryz.prog 68 #[v, .int .i64 n] w fun e w' => ∃ v', e = .returned v' ∧ RowStep w w' 5 v v' (fitL l n) := by
  obtain ⟨p, cap, rfl, hcap⟩ : ∃ p cap, v = .slice p l.length cap ∧ l.length ≤ cap := by
    rcases hv.2 with ⟨h, h2⟩ | ⟨g, cap, _, h, _, _, h2, _⟩
    · exact ⟨none, 0, by rw [h, h2], by omega⟩
    · exact ⟨_, cap, h, h2⟩
  have hm : l.length ≤ 9223372036854775807 := by
    rcases hv.2 with ⟨_, h2⟩ | ⟨g, cap, _, h, _, _, h2, h3, _⟩
    · omega
    · unfold maxLen at h3; omega
  by_cases h : n ≤ l.length
  · have fin : RowStep w w 5 (.slice p l.length cap) (.slice p n cap) (fitL l n) := by
      rw [fitL_less h]
      refine ⟨by have := owns_less hv h; simpa [List.length_take, Nat.min_eq_left h] using this, World.grownBy.refl _ _, .inl (by cases p <;> rfl)⟩
    have FIN := Lib.hid fin
    have hc1 : (n : Int) ≤ cap := by omega
    have hi1 : (n : Int) ≤ l.length := by omega
    clear fin hv hn
    go_enter Tryz.func68, Tryz.ntmps68
    go_wp2
    go_ret
    exact ⟨_, rfl, FIN.out⟩
  · obtain ⟨d, hd⟩ : ∃ d, n = l.length + d := ⟨n - l.length, by omega⟩
    have hi1 : ¬ (n : Int) ≤ l.length := by omega
    have hdi : (n : Int) - l.length = (d : Int) := by omega
    have HF : Hid (fitL l n = l ++ List.replicate d 0) := by
      unfold Hid; rw [fitL_more (by omega)]; congr 2; omega
    have HV := Lib.hid hv
    have HD := Lib.hid hd
    clear hv hd
    go_enter Tryz.func68, Tryz.ntmps68
    go_wp2_with (at_builtin; refine run_zeros_op rfl (.tmp 12) (.tmp 16) (ti := 3) bytesT (k := .i64) (by kernel_rfl) rfl (.slice p l.length cap) l rfl HV.out d rfl (by have := HD.out; omega) ?_; intro v' w' hst)
    have HST := Lib.hid hst; clear hst
    go_wp2
    go_ret
    exact ⟨_, rfl, by rw [HF.out]; exact HST.out⟩

set_option maxRecDepth 100000 in
theorem put_any (v pv : Value) (l p : List Nat) (off : Nat) (w : World) (hv : w.ownsRow 0 5 1 v l.length (cellsOf l)) (hp : Bytes w pv p) (hd : ∀ k, pv.ownBlock = some k → v.ownBlock ≠ some k) (hpos : 0 < p.length) (hn : off + p.length ≤ 16777216 + 16777216) :
    Calls Tryz.prog 91 #[v, .int .i64 off, pv] w fun e w' => ∃ v', e = .returned v' ∧ RowStep w w' 5 v v' (putL l off p) := by
  have HV := Lib.hid hv; have HP := Lib.hid hp; have HD := Lib.hid hd
  obtain ⟨q, cap, rfl, hcap⟩ : ∃ p cap, v = .slice p l.length cap ∧ l.length ≤ cap := by
    rcases hv.2 with ⟨h, h2⟩ | ⟨g, cap, _, h, _, _, h2, _⟩
    · exact ⟨none, 0, by rw [h, h2], by omega⟩
    · exact ⟨_, cap, h, h2⟩
  have hm : l.length ≤ 9223372036854775807 := by
    rcases hv.2 with ⟨_, h2⟩ | ⟨g, cap, _, h, _, _, h2, h3, _⟩
    · omega
    · unfold maxLen at h3; omega
  obtain ⟨pb, po, pc, rfl, hpc⟩ : ∃ pb po pc, pv = .slice (some ⟨pb, po, none⟩) p.length pc ∧ ∀ i, i < p.length → w.cell? ⟨pb, po + i, none⟩ = some (.int .u8 (atB p i : Nat)) := by
    rcases hp.out with ⟨_, h⟩ | ⟨_, _, h⟩ | ⟨b, o, c, h, _, hc⟩
    · subst h; simp at hpos
    · subst h; simp at hpos
    · exact ⟨b, o, c, h, hc⟩
  have HPC := Lib.hid hpc
  have hpb : pb < w.heap.size := block_lt_of_cell (hpc 0 hpos)
  have hsz1 : (Tryz.prog.info? 5).map (·.size) = some 1 := by kernel_rfl
  have HSZ := Lib.hid hsz1
  have hend : (off : Int) + p.length ≤ 16777216 + 16777216 := by omega
  clear hv hp hd hpc hsz1
  -- behind the first step
  have rest : ∀ (v1 : Value) (l1 : List Nat) (w1 : World), RowStep w w1 5 (.slice q l.length cap) v1 l1 → off + p.length ≤ l1.length →
      ∃ g cap1 cur, v1 = .slice (some ⟨g, 0, none⟩) l1.length cap1 ∧ w1.heap[g]? = some (.cells cur 5 (0, 0)) ∧ l1.length ≤ cap1 ∧ cap1 ≤ maxLen ∧ cur.size = cap1 * 1 ∧ cur.toList.take (l1.length * 1) = cellsOf l1 ∧
        (∀ j u, (cellsOf p)[j]? = some u → w1.cell? ((⟨pb, po, none⟩ : Addr).add j) = some u) := by
    intro v1 l1 w1 hs hl
    rcases hs.owns.2 with ⟨_, h⟩ | ⟨g, cap1, cur, h1, _, h2, h3, h4, h5, h6⟩
    · omega
    · refine ⟨g, cap1, cur, h1, h2, h3, h4, h5, h6, fun j u hu => ?_⟩
      obtain ⟨hj, rfl⟩ := cellsOf_at hu
      rw [Addr.add_lit, World.cell?_of_block (hs.grown.block pb hpb (fun e => HD.out pb rfl e.symm))]
      exact HPC.out j hj
  have REST := Lib.hid rest
  clear rest hpb
  by_cases h : l.length < off + p.length
  · have HL : Hid (putL l off p = overL (fitL l (off + p.length)) off p) := by unfold Hid putL; rw [if_pos h]
    have hi : (l.length : Int) < (off : Int) + p.length := by omega
    have hfit := fit_any (.slice q l.length cap) l (off + p.length) w HV.out (by omega)
    have hca : ((off + p.length : Nat) : Int) = (off : Int) + p.length := by omega
    rw [hca] at hfit
    have HFIT := Lib.hid hfit
    clear hfit hca h
    go_enter Tryz.func91, Tryz.ntmps91
    go_wp2_with fail
    refine HFIT.out.mono ?_
    rintro e w1 ⟨v1, rfl, hs⟩
    obtain ⟨g, cap1, cur, rfl, h2, h3, h4, h5, h6, h7⟩ := REST.out v1 _ w1 hs (by rw [fitL_length]; omega)
    have hfl := fitL_length l (off + p.length)
    have hst := over_step (off := off) (p := p) h2 h3 h4 h5 h6 (by rw [hfl]; omega)
    have hall := hs.trans hst
    have HALL := Lib.hid hall
    have i1 : (off : Int) ≤ (fitL l (off + p.length)).length := by rw [hfl]; omega
    have i2 : ¬ cap1 = off := by omega
    have i3 : (off : Int) ≤ cap1 := by omega
    have H2 := Lib.hid h2; have H5 := Lib.hid h5; have H7 := Lib.hid h7; have HFL := Lib.hid hfl
    unfold maxLen at h4
    clear hs hst hall h2 h5 h6 h7
    generalize fitL l (off + p.length) = l1 at *
    clear hfl
    go_wp2_with (with_reducible refine wpList_copy_own rfl (.tmp 21) (.tmp 22) 23 23 rfl 5 bytesT.slice HSZ.out g off (l1.length - off) (cap1 - off) ⟨pb, po, none⟩ p.length pc ?hd ?hs cur 5 H2.out (cellsOf p) ?hn H7.out ?hf (cellsOf_one _) ?hk)
    case hd => rfl
    case hs => rfl
    case hn => rw [cellsOf_length, HFL.out]; simp
    case hf => rw [cellsOf_length, H5.out]; have := HFL.out; omega
    go_wp2
    go_ret
    exact ⟨_, rfl, by rw [HL.out]; exact HALL.out⟩
  · have HL : Hid (putL l off p = overL l off p) := by unfold Hid putL; rw [if_neg h]
    have hi : ¬ (l.length : Int) < (off : Int) + p.length := by omega
    have hlo : off + p.length ≤ l.length := by omega
    obtain ⟨g, cap1, cur, hveq, h2, h3, h4, h5, h6, h7⟩ := REST.out _ l w (RowStep.refl HV.out) hlo
    simp only [Value.slice.injEq, true_and] at hveq
    obtain ⟨rfl, rfl⟩ := hveq
    have hst := over_step (off := off) (p := p) h2 h3 h4 h5 h6 hlo
    have HALL := Lib.hid hst
    have i1 : (off : Int) ≤ l.length := by omega
    have i2 : ¬ cap = off := by omega
    have i3 : (off : Int) ≤ cap := by omega
    have H2 := Lib.hid h2; have H5 := Lib.hid h5; have H7 := Lib.hid h7; have HLO := Lib.hid hlo; have H3 := Lib.hid h3
    clear hst h2 h5 h6 h7 h4 h
    go_enter Tryz.func91, Tryz.ntmps91
    go_wp2_with (with_reducible refine wpList_copy_own rfl (.tmp 21) (.tmp 22) 23 23 rfl 5 bytesT.slice HSZ.out g off (l.length - off) (cap - off) ⟨pb, po, none⟩ p.length pc ?hd2 ?hs2 cur 5 H2.out (cellsOf p) ?hn2 H7.out ?hf2 (cellsOf_one _) ?hk2)
    try (case hd2 => rfl)
    try (case hs2 => rfl)
    case hn2 => rw [cellsOf_length]; have := HLO.out; show p.length = min p.length _; omega
    case hf2 => rw [cellsOf_length, H5.out]; have := HLO.out; have := H3.out; omega
    go_wp2
    go_ret
    exact ⟨_, rfl, by rw [HL.out]; exact HALL.out⟩
end Go.Proofs.YtldkeelgnfegeaaGreat

/- The disk: what was laid by is done again, piece by piece. -/
namespace Go.Proofs.YtldkeelgnfegeaaGreat
open Go Go.RowKit Go.By

/-- Only blocks of this set, and new ones, are turned. -/
structure Turned (S : Nat → Prop) (w w' : World) : Prop where
  os : w'.os = w.os
  tape : w'.tape = w.tape
  output : w'.output = w.output
  size : w.heap.size ≤ w'.heap.size
  block : ∀ k, k < w.heap.size → ¬ S k → w'.heap[k]? = w.heap[k]?
theorem Turned.refl (S : Nat → Prop) (w : World) : Turned S w w := ⟨rfl, rfl, rfl, Nat.le_refl _, fun _ _ _ => rfl⟩
theorem Turned.trans {S S' : Nat → Prop} {w w1 w2 : World} (h : Turned S w w1) (k : Turned S' w1 w2) (hS : ∀ j, S' j → S j ∨ w.heap.size ≤ j) : Turned S w w2 :=
  ⟨k.os.trans h.os, k.tape.trans h.tape, k.output.trans h.output, Nat.le_trans h.size k.size, fun j hj hn => (k.block j (Nat.lt_of_lt_of_le hj h.size) (fun hs => by
    rcases hS j hs with h' | h'
    · exact hn h'
    · omega)).trans (h.block j hj hn)⟩
theorem Turned.of_grown {w w' : World} {row : Option Nat} (h : w.grownBy w' row) : Turned (fun k => row = some k) w w' := ⟨h.os, h.tape, h.output, h.size, fun k hk hn => h.block k hk (fun e => hn e.symm)⟩
theorem Turned.weaken {S S' : Nat → Prop} {w w' : World} (h : Turned S w w') (hS : ∀ k, S k → S' k) : Turned S' w w' := ⟨h.os, h.tape, h.output, h.size, fun k hk hn => h.block k hk (fun hs => hn (hS k hs))⟩
theorem Turned.drew {S : Nat → Prop} {w w' : World} (h : Turned S w w') : Turned S w w'.drew := ⟨h.os, h.tape, h.output, h.size, h.block⟩
theorem Turned.alloc {S : Nat → Prop} {w w' : World} (h : Turned S w w') (o : Obj) : Turned S w (w'.alloc o) :=
  ⟨h.os, h.tape, h.output, Nat.le_trans h.size (by simp), fun k hk hn => (Below.heap_alloc w' o k (Nat.lt_of_lt_of_le hk h.size)).trans (h.block k hk hn)⟩

/-- More often it is not asked. -/
def drawLim : Nat := 1152921504606846976

/-- What tells, one piece after the other, whether it lasts. It hangs on the blocks of S alone, and turns lb alone. -/
structure Lasts (fid : FuncId) (first : Array Value) (S : Nat → Prop) (lb : Option Nat) (I : Nat → World → Prop) (bit : Nat → Bool) : Prop where
  call : ∀ i w, I i w → i < drawLim → Calls Tryz.prog fid first w fun e w' => e = .returned (.bool (bit i)) ∧ I (i + 1) w' ∧ w.grownBy w' lb
  stay : ∀ i w w', I i w → (∀ k, S k → w'.heap[k]? = w.heap[k]?) → I i w'
  here : ∀ i w k, I i w → S k → k < w.heap.size
  own : ∀ k, lb = some k → S k
  enter : ∀ args w, (callFunc fid args).run Tryz.prog w = .ok (.enter fid args) w

theorem always_lasts : Lasts 57 #[] (fun _ => False) none (fun _ _ => True) (fun _ => true) where
  call := by
    intro i w _ _
    go_enter Tryz.func57, Tryz.ntmps57
    go_wp2
    go_ret
    exact ⟨rfl, trivial, World.grownBy.refl _ _⟩
  stay := fun _ _ _ _ _ => trivial
  here := fun _ _ _ _ h => h.elim
  own := fun _ h => by cases h
  enter := by intro args w; kernel_rfl

/-- How many bytes the next piece has. -/
def pieceLen (off n at_ : Nat) : Nat := min (128 - (off + at_) % 128) (n - at_)
/-- A write, done again from a place on: the row, and how many pieces were asked for. -/
def redoWrite (off : Nat) (b : List Nat) (bit : Nat → Bool) : Nat → Nat → Nat → List Nat → List Nat × Nat
  | 0, _, i, l => (l, i)
  | fuel + 1, at_, i, l =>
    if at_ < b.length then redoWrite off b bit fuel (at_ + pieceLen off b.length at_) (i + 1) (if bit i then putL l (off + at_) ((b.drop at_).take (pieceLen off b.length at_)) else l)
    else (l, i)

/-- The row behind some rounds. -/
structure RowTo (S : Nat → Prop) (lb : Option Nat) (w w' : World) (v v' : Value) (l : List Nat) : Prop where
  owns : w'.ownsRow 0 5 1 v' l.length (cellsOf l)
  turned : Turned (fun k => v.ownBlock = some k ∨ lb = some k) w w'
  moved : v'.ownBlock = v.ownBlock ∨ ∃ k, v'.ownBlock = some k ∧ w.heap.size ≤ k

end Go.Proofs.YtldkeelgnfegeaaGreat
