/- The disk: a write, done again. -/
import Derived.Test.YtobhhedggppneaaDskI
import Derived.Handy
namespace Go.Proofs.Ytobhhedggppneaa
open Go Go.RowKit Go.By

theorem pieceLen_pos {off n at_ : Nat} (h : at_ < n) : 0 < pieceLen off n at_ := by unfold pieceLen; omega
theorem pieceLen_le (off n at_ : Nat) : pieceLen off n at_ ≤ n - at_ := Nat.min_le_right _ _

theorem RowTo.refl {S : Nat → Prop} {lb : Option Nat} {w : World} {v : Value} {l : List Nat} (h : w.ownsRow 0 5 1 v l.length (cellsOf l)) : RowTo S lb w w v v l := ⟨h, Turned.refl _ _, .inl rfl⟩

theorem RowTo.step {S : Nat → Prop} {lb : Option Nat} {w w1 w2 : World} {v v1 v2 : Value} {l1 l2 : List Nat} (h : RowTo S lb w w1 v v1 l1) (k : RowStep w1 w2 5 v1 v2 l2) : RowTo S lb w w2 v v2 l2 where
  owns := k.owns
  turned := h.turned.trans (Turned.of_grown k.grown) (fun j hj => by
    rcases h.moved with hm | ⟨q, hm, hq⟩
    · exact .inl (.inl (by rw [← hm]; exact hj))
    · rw [hm] at hj; cases hj; exact .inr hq)
  moved := by
    rcases k.moved with hm | ⟨q, hm, hq⟩
    · rw [hm]; exact h.moved
    · exact .inr ⟨q, hm, Nat.le_trans h.turned.size hq⟩
theorem RowTo.asked {S : Nat → Prop} {lb : Option Nat} {w w1 w2 : World} {v v1 : Value} {l1 : List Nat} (h : RowTo S lb w w1 v v1 l1) (k : w1.grownBy w2 lb) (hn : ∀ j, v1.ownBlock = some j → lb ≠ some j) : RowTo S lb w w2 v v1 l1 where
  owns := ownsRow_of_heap h.owns fun j hj => k.block j (by
    rcases h.owns.2 with ⟨hv, _⟩ | ⟨g, cap, cur, hv, _, hg, _⟩
    · rw [hv] at hj; cases hj
    · rw [hv] at hj; cases hj; exact (Array.getElem?_eq_some_iff.1 hg).1) (fun e => hn j hj e.symm)
  turned := h.turned.trans (Turned.of_grown k) (fun j hj => .inl (.inr hj))
  moved := h.moved
theorem RowTo.lead {S : Nat → Prop} {lb : Option Nat} {w w1 w2 : World} {v v1 : Value} {l1 : List Nat} (h : Below w.heap.size w w1) (k : RowTo S lb w1 w2 v v1 l1) : RowTo S lb w w2 v v1 l1 where
  owns := k.owns
  turned := ⟨k.turned.os.trans h.os, k.turned.tape.trans h.tape, k.turned.output.trans h.output, Nat.le_trans h.size k.turned.size, fun j hj hn => (k.turned.block j (Nat.lt_of_lt_of_le hj h.size) hn).trans (h.block j hj)⟩
  moved := by
    rcases k.moved with hm | ⟨q, hm, hq⟩
    · exact .inl hm
    · exact .inr ⟨q, hm, Nat.le_trans h.size hq⟩
/-- Where its row is, behind some rounds. -/
theorem RowTo.apart {S : Nat → Prop} {lb : Option Nat} {w w1 : World} {v v1 : Value} {l1 : List Nat} (h : RowTo S lb w w1 v v1 l1) (hS : ∀ k, v.ownBlock = some k → ¬ S k) (hl : ∀ k, S k → k < w.heap.size) {j : Nat} (hj : v1.ownBlock = some j) : ¬ S j := by
  rcases h.moved with hm | ⟨q, hm, hq⟩
  · rw [hm] at hj; exact hS j hj
  · rw [hm] at hj; cases hj; intro hs; have := hl _ hs; omega
theorem RowTo.keeps {S : Nat → Prop} {lb : Option Nat} {w w1 : World} {v v1 : Value} {l1 : List Nat} (h : RowTo S lb w w1 v v1 l1) {k : Nat} (hk : k < w.heap.size) (h1 : v.ownBlock ≠ some k) (h2 : lb ≠ some k) : w1.heap[k]? = w.heap[k]? :=
  h.turned.block k hk (fun h => h.elim h1 h2)

theorem Bytes.sub {w : World} {pb po pc n : Nat} {l : List Nat} (hc : ∀ i, i < l.length → w.cell? ⟨pb, po + i, none⟩ = some (.int .u8 (atB l i : Nat))) (hs : ∀ c ∈ l, c < 256) (hm : l.length ≤ maxLen) (lo : Nat) (hn : lo + n ≤ l.length) (hp : l.length ≤ pc) :
    Bytes w (.slice (some ⟨pb, po + lo, none⟩) n (pc - lo)) ((l.drop lo).take n) where
  out := by
    have hlen : ((l.drop lo).take n).length = n := by simp; omega
    refine .inr (.inr ⟨pb, po + lo, pc - lo, by rw [hlen], by rw [hlen]; omega, fun i hi => ?_⟩)
    rw [hlen] at hi
    have := hc (lo + i) (by omega)
    rw [Nat.add_assoc, this]
    congr 3
    unfold atB
    simp [List.getD, List.getElem?_take, hi]
  small := fun c hc => hs c (List.mem_of_mem_drop (List.mem_of_mem_take hc))
  short := by simp; omega

set_option maxRecDepth 100000 in
set_option maxHeartbeats 400000 in
theorem redoWrite_any {fid : FuncId} {first : Array Value} {S : Nat → Prop} {lb : Option Nat} {I : Nat → World → Prop} {bit : Nat → Bool} (L : Lasts fid first S lb I bit)
    (v bv : Value) (l b : List Nat) (off i0 : Nat) (w : World) (hI : I i0 w) (hv : w.ownsRow 0 5 1 v l.length (cellsOf l)) (hb : Bytes w bv b)
    (hd : ∀ k, bv.ownBlock = some k → v.ownBlock ≠ some k ∧ ¬ S k) (hS : ∀ k, v.ownBlock = some k → ¬ S k) (hpos : 0 < b.length) (hoff : off ≤ 16777216) (hlen : b.length ≤ 1048576) (hi0 : i0 + b.length ≤ drawLim) :
    Calls Try.prog 32 #[.agg #[.int .i64 off, bv], v, .func (.func fid) first #[]] w fun e w' => ∃ v', e = .returned v' ∧
      I (redoWrite off b bit b.length 0 i0 l).2 w' ∧ RowTo S lb w w' v v' (redoWrite off b bit b.length 0 i0 l).1 := by
  obtain ⟨pb, po, pc, rfl, hpcl, hpc⟩ : ∃ pb po pc, bv = .slice (some ⟨pb, po, none⟩) b.length pc ∧ b.length ≤ pc ∧ ∀ i, i < b.length → w.cell? ⟨pb, po + i, none⟩ = some (.int .u8 (atB b i : Nat)) := by
    rcases hb.out with ⟨_, h⟩ | ⟨_, _, h⟩ | ⟨b, o, c, h, hcl, hc⟩
    · subst h; simp at hpos
    · subst h; simp at hpos
    · exact ⟨b, o, c, h, hcl, hc⟩
  have HI0 := Lib.hid hi0; clear hi0
  have HI := Lib.hid hI; have HV := Lib.hid hv; have HB := Lib.hid hb; have HD := Lib.hid hd; have HS := Lib.hid hS; have HPC := Lib.hid hpc
  have HBS := Lib.hid hb.small; have HPL := Lib.hid hpcl
  have hw1 : ∀ o, RowTo S lb (w.alloc o) (w.alloc o) v v l := fun o => RowTo.refl (ownsRow_of_heap hv fun k hk => Below.heap_alloc w o k (by
    rcases hv.2 with ⟨h, _⟩ | ⟨g, cap, cur, h, _, hg, _⟩
    · rw [h] at hk; cases hk
    · rw [h] at hk; cases hk; exact (Array.getElem?_eq_some_iff.1 hg).1))
  have HW1 := Lib.hid hw1
  clear hI hv hb hd hS hpc hw1 hpcl
  go_enter Try.func32, Try.ntmps32
  go_wp2
  obtain ⟨W, hW⟩ : ∃ W, W = w.alloc (Obj.cells #[Value.int IntKind.i64 ↑off, Value.slice (some { block := pb, off := po }) b.length pc] 78) := ⟨_, rfl⟩
  rw [← hW]
  have hWs : W.heap.size = w.heap.size + 1 := by rw [hW]; simp
  have hWb : Below w.heap.size w W := by rw [hW]; exact Below.alloc (Below.refl _ _) (Nat.le_refl _) _
  have hW0 : W.heap[w.heap.size]? = some (.cells #[Value.int IntKind.i64 ↑off, Value.slice (some { block := pb, off := po }) b.length pc] 78 (0, 0)) := by rw [hW]; exact heap_alloc_new w _
  have hRT : RowTo S lb W W v v l := by rw [hW]; exact HW1.out _
  have hIW : I i0 W := L.stay i0 w W HI.out fun k hk => hWb.block k (L.here i0 w k HI.out hk)
  have hvlt : ∀ k, v.ownBlock = some k → k < w.heap.size := fun k hk => by
    rcases HV.out.2 with ⟨h, _⟩ | ⟨g, cap, cur, h, _, hg, _⟩
    · rw [h] at hk; cases hk
    · rw [h] at hk; cases hk; exact (Array.getElem?_eq_some_iff.1 hg).1
  have hpb : pb < w.heap.size := block_lt_of_cell (HPC.out 0 hpos)
  -- what stays behind some rounds
  have keep : ∀ wr v1 l1, RowTo S lb W wr v v1 l1 → wr.heap[w.heap.size]? = W.heap[w.heap.size]? ∧ wr.heap[pb]? = w.heap[pb]? := fun wr v1 l1 h => by
    refine ⟨h.keeps (by omega) (fun e => ?_) (fun e => ?_), (h.keeps (by omega) (HD.out pb rfl).1 (fun e => (HD.out pb rfl).2 (L.own pb e))).trans (hWb.block pb hpb)⟩
    · have := hvlt _ e; omega
    · have := L.here i0 w _ HI.out (L.own _ e); omega
  have HWs := Lib.hid hWs; have HWb := Lib.hid hWb; have HW0 := Lib.hid hW0; have HRT := Lib.hid hRT; have HIW := Lib.hid hIW; have HVL := Lib.hid hvlt; have HPB := Lib.hid hpb; have KEEP := Lib.hid keep
  clear hW hWs hWb hW0 hRT hIW hvlt hpb keep
  go_loopw [1, 7] (fun v1 x wr => ∃ (k i f : Nat) (l1 : List Nat), x = .int .i64 k ∧ k ≤ b.length ∧ b.length ≤ k + f ∧ i ≤ i0 + k ∧ I i wr ∧ RowTo S lb W wr v v1 l1 ∧ redoWrite off b bit f k i l1 = redoWrite off b bit b.length 0 i0 l) (fun _ x _ => b.length - (intOf x).toNat)
  case atStart => exact ⟨0, i0, b.length, l, rfl, by omega, by omega, by omega, HIW.out, HRT.out, rfl⟩
  case round =>
    obtain ⟨k, i, f, l1, rfl, hk, hf, hik, hIr, hrt, heq⟩ := hrel
    obtain ⟨hk1, hk2⟩ := KEEP.out wr u1 l1 hrt
    have c0 : wr.cell? ⟨w.heap.size, 0, none⟩ = some (.int .i64 off) := (World.cell?_of_block hk1).trans (cells_of HW0.out 0)
    have c1 : wr.cell? ⟨w.heap.size, 1, none⟩ = some (.slice (some { block := pb, off := po }) b.length pc) := (World.cell?_of_block hk1).trans (cells_of HW0.out 1)
    have hIr' := Lib.hid hIr; have HR := Lib.hid hrt; have HE := Lib.hid heq; have HK2 := Lib.hid hk2
    clear hIr hrt heq hk1 hk2 HRT HIW HV HB
    by_cases hlt : k < b.length
    · obtain ⟨f, rfl⟩ : ∃ g, f = g + 1 := ⟨f - 1, by omega⟩
      have hki : (k : Int) < b.length := by omega
      have hm1 : Int.tmod ((off : Int) + k) 128 = (((off + k) % 128 : Nat) : Int) := by
        rw [Int.tmod_eq_emod_of_nonneg (by omega)]; omega
      have hm2 : (off + k) % 128 < 128 := Nat.mod_lt _ (by decide)
      obtain ⟨n, hn⟩ : ∃ n, n = pieceLen off b.length k := ⟨_, rfl⟩
      have hn1 : 0 < n := hn ▸ pieceLen_pos hlt
      have hn2 : n ≤ b.length - k := hn ▸ pieceLen_le _ _ _
      have hmin : ((128 : Int) - ((off + k) % 128 : Nat) = n ∧ (n : Int) ≤ (b.length : Int) - k) ∨ ((b.length : Int) - k = n ∧ ¬ (128 : Int) - ((off + k) % 128 : Nat) ≤ n) := by
        unfold pieceLen at hn; omega
      generalize (off + k) % 128 = md at *
      have HN := Lib.hid hn
      clear hn
      have stp : RowTo S lb W wr v u1 l1 := HR.out
      -- behind a round
      have next : ∀ l2 : List Nat, l2 = (if bit i then putL l1 (off + k) ((b.drop k).take n) else l1) → redoWrite off b bit f (k + n) (i + 1) l2 = redoWrite off b bit b.length 0 i0 l := by
        rintro l2 rfl
        rw [← HE.out]
        conv => rhs; unfold redoWrite
        rw [if_pos hlt, ← HN.out]
      have NEXT := Lib.hid next
      clear stp next
      have call := L.call i wr hIr'.out (by have := HI0.out; omega)
      have HIK := Lib.hid hik
      clear hik
      have CALL := Lib.hid call; clear call
      have hpl := HPL.out
      have b1 : (k : Int) + n ≤ pc := by omega
      have b2 : ¬ pc = k := by omega
      have b3 : ((k : Int) + n).toNat = k + n := by omega
      have b4 : k + n - k = n := by omega
      clear hpl
      rcases hmin with ⟨e1, e2⟩ | ⟨e1, e2⟩
      all_goals
        go_wp2
        rw [L.enter]
        refine CALL.out.mono ?_
        rintro e w2 ⟨rfl, hI2, hg2⟩
        have hS2 := fun j hj => HR.out.apart (j := j) HS.out (fun q hq => by have := L.here i0 w q HI.out hq; have := HWs.out; omega) hj
        have hr2 := HR.out.asked hg2 (fun j hj e => hS2 j hj (L.own _ e))
        obtain ⟨hq1, hq2⟩ := KEEP.out w2 u1 l1 hr2
        have d1 : w2.cell? ⟨w.heap.size, 1, none⟩ = some (.slice (some { block := pb, off := po }) b.length pc) := (World.cell?_of_block hq1).trans (cells_of HW0.out 1)
        have HI2 := Lib.hid hI2; have HR2 := Lib.hid hr2; have HS2 := Lib.hid hS2; have HQ2 := Lib.hid hq2
        clear hI2 hg2 hr2 hS2 hq1 hq2
        cases hbit : bit i
        · have HBIT := Lib.hid hbit
          clear hbit
          go_wp2
          go_roundw
          case rel => exact ⟨k + n, i + 1, f, l1, by go_num, by omega, by omega, by have := HIK.out; omega, HI2.out, HR2.out, NEXT.out l1 (by rw [HBIT.out]; rfl)⟩
          case measure => simp [intOf]; omega
        · have HBIT := Lib.hid hbit
          clear hbit
          have hbp := Bytes.sub (w := w2) (fun i hi => (World.cell?_of_block HQ2.out).trans (HPC.out i hi)) HBS.out (by unfold maxLen; omega) k (n := n) (by omega) HPL.out
          have hput := put_any u1 _ l1 ((b.drop k).take n) (off + k) w2 HR2.out.owns hbp (fun q hq hu => by
            simp only [Value.ownBlock, Option.some.injEq] at hq
            subst hq
            rcases HR2.out.moved with hm | ⟨q', hm, hq'⟩
            · rw [hm] at hu; exact (HD.out pb rfl).1 hu
            · rw [hm] at hu; cases hu; have := HPB.out; have := HWs.out; omega) (by simp; omega) (by simp; omega)
          have hca : ((off + k : Nat) : Int) = (off : Int) + k := by omega
          rw [hca] at hput
          have HPUT := Lib.hid hput
          clear hbp hput hca
          go_wp2_with fail
          refine HPUT.out.mono ?_
          rintro e w3 ⟨v2, rfl, hs⟩
          have hI3 := L.stay (i + 1) w2 w3 HI2.out fun q hq => hs.grown.block q (L.here _ w2 q HI2.out hq) (fun e => HS2.out q e.symm hq)
          have hr3 := HR2.out.step hs
          have HI3 := Lib.hid hI3; have HR3 := Lib.hid hr3
          clear hI3 hr3 hs
          go_wp2
          go_roundw
          case rel => exact ⟨k + n, i + 1, f, _, by go_num, by omega, by omega, by have := HIK.out; omega, HI3.out, HR3.out, NEXT.out _ (by rw [HBIT.out]; rfl)⟩
          case measure => simp [intOf]; omega
    · obtain rfl : k = b.length := by omega
      have heq : redoWrite off b bit b.length 0 i0 l = (l1, i) := by
        rw [← HE.out]
        cases f with
        | zero => rfl
        | succ f => unfold redoWrite; rw [if_neg hlt]
      have HEQ := Lib.hid heq
      clear heq
      go_wp2
      go_ret
      exact ⟨_, rfl, by rw [HEQ.out]; exact hIr'.out, by rw [HEQ.out]; exact HR.out.lead HWb.out⟩
end Go.Proofs.Ytobhhedggppneaa
