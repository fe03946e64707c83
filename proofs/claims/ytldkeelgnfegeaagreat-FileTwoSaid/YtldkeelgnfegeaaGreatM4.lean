/- Own texts, merged: DskL, DskM, DskN, DskO, DskP, DskQ, DskR, DskS, DskBF, DskW, DskBG, DskBH, DskX. -/
import Derived.Test.YtldkeelgnfegeaaGreatM3
import Derived.Deep.RegionHeld3
import Derived.Deep.AppendLies
import Derived.Handy
import Derived.BigQuiet
import Derived.Laws.IdiomRangeMap

/- The disk: file.settle. -/
namespace Go.Proofs.YtldkeelgnfegeaaGreat
open Go Go.RowKit Go.By

/-- The roles of one file. -/
def ofFile (n : Nat) (r : Role) : Prop := r = .file n ∨ r = .fseen n ∨ r = .fkept n ∨ r = .flaid n

/-- A step on one file alone. -/
structure FileStep (n : Nat) (lb : Option Nat) (own own' : Own) (w w' : World) : Prop where
  turned : Turned (fun j => (∃ r, own j = some r ∧ ofFile n r) ∨ lb = some j) w w'
  same : ∀ k, k < w.heap.size → own' k = own k
  role : ∀ k r, own k = some r → own' k = some r
  new : ∀ k r, own' k = some r → own k = some r ∨ (w.heap.size ≤ k ∧ k < w'.heap.size ∧ (ofFile n r ∨ r = .ink))

theorem own_went {own : Own} {w w' : World} (here : ∀ k r, own k = some r → k < w.heap.size) {v v' : Value} {r : Role} (hv : ∀ k, v.ownBlock = some k → own k = some r)
    (hat : v'.ownBlock = v.ownBlock ∨ ∃ q, v'.ownBlock = some q ∧ w.heap.size ≤ q) (hlt : ∀ k, v'.ownBlock = some k → k < w'.heap.size) :
    ∃ own' : Own, (∀ k, k < w.heap.size → own' k = own k) ∧ (∀ k r', own k = some r' → own' k = some r') ∧ (∀ k, v'.ownBlock = some k → own' k = some r) ∧ (∀ k r', own' k = some r' → own k = some r' ∨ (w.heap.size ≤ k ∧ k < w'.heap.size ∧ r' = r)) := by
  rcases hat with h | ⟨q, h, hq⟩
  · exact ⟨own, fun _ _ => rfl, fun _ _ h => h, fun k hk => hv k (h ▸ hk), fun k r' hk => .inl hk⟩
  · refine ⟨own.add q r, fun k hk => Own.add_lt (by omega), fun k r' hk => Own.add_old here hq hk, fun k hk => ?_, fun k r' hk => ?_⟩
    · rw [h] at hk; cases hk; exact Own.add_self _ _ _
    · rcases Own.add_some hk with ⟨rfl, h'⟩ | h'
      · exact .inr ⟨hq, hlt _ h, h'⟩
      · exact .inl h'

theorem redoWrite_small {off : Nat} {b : List Nat} {bit : Nat → Bool} (hb : ∀ c ∈ b, c < 256) : ∀ (f k i : Nat) (l : List Nat), (∀ c ∈ l, c < 256) → ∀ c ∈ (redoWrite off b bit f k i l).1, c < 256
  | 0, _, _, _, h => h
  | f + 1, k, i, l, h => by
    unfold redoWrite
    split
    · refine redoWrite_small hb f _ _ _ ?_
      split
      · exact putL_small h fun c hc => hb c (List.mem_of_mem_drop (List.mem_of_mem_take hc))
      · exact h
    · exact h
theorem redoOp_small {bit : Nat → Bool} {w : World} {own : Own} {c : Value} {o : ByteOp} (ho : OpV w own c o) {i : Nat} {l : List Nat} (h : ∀ c ∈ l, c < 256) : ∀ c ∈ (redoOp bit o i l).1, c < 256 := by
  cases o with
  | write off b => obtain ⟨bv, _, hb, _⟩ := ho; exact redoWrite_small hb.small _ _ _ _ h
  | cut n =>
    show ∀ c ∈ (if bit i then fitL l n else l), c < 256
    split
    · exact fitL_small h
    · exact h

theorem Turned.setCell {S : Nat → Prop} {w w' : World} (h : Turned S w w') {a : Nat} (hS : S a) (i : Nat) (v : Value) : Turned S w (w'.setCell ⟨a, i, none⟩ v) :=
  ⟨h.os, h.tape, h.output, by simp; exact h.size, fun k hk hn => (heap_setCell_other w' ⟨a, i, none⟩ k v (fun e => hn (by have e' : k = a := e; rw [e']; exact hS))).trans (h.block k hk hn)⟩

/-- While a file settles. -/
structure Settling (lb : Option Nat) (w wr : World) (fb : Nat) (sv kv kv1 lv : Value) (l1 : List Nat) : Prop where
  heap : wr.heap[fb]? = some (.cells #[sv, kv1, lv] 75 (0, 0))
  owns : wr.ownsRow 0 5 1 kv1 l1.length (cellsOf l1)
  turned : Turned (fun j => j = fb ∨ kv.ownBlock = some j ∨ lb = some j) w wr
  moved : kv1.ownBlock = kv.ownBlock ∨ ∃ q, kv1.ownBlock = some q ∧ w.heap.size ≤ q
  small : ∀ c ∈ l1, c < 256

theorem Settling.step {S : Nat → Prop} {lb : Option Nat} {w wr w2 : World} {fb : Nat} {sv kv kv1 kv2 lv : Value} {l1 l2 : List Nat} (h : Settling lb w wr fb sv kv kv1 lv l1) (k : RowTo S lb wr w2 kv1 kv2 l2)
    (h1 : kv.ownBlock ≠ some fb) (h2 : lb ≠ some fb) (h3 : fb < w.heap.size) (hs : ∀ c ∈ l2, c < 256) : Settling lb w (w2.setCell ⟨fb, 1, none⟩ kv2) fb sv kv kv2 lv l2 := by
  have hne : kv1.ownBlock ≠ some fb := by
    rcases h.moved with hm | ⟨q, hm, hq⟩
    · rw [hm]; exact h1
    · rw [hm]; intro e; cases e; omega
  have hfb : w2.heap[fb]? = some (.cells #[sv, kv1, lv] 75 (0, 0)) := (k.keeps (Nat.lt_of_lt_of_le h3 h.turned.size) hne h2).trans h.heap
  obtain ⟨g1, g2⟩ := set_heap hfb 1 kv2
  have hmv : kv2.ownBlock = kv.ownBlock ∨ ∃ q, kv2.ownBlock = some q ∧ w.heap.size ≤ q := by
    rcases k.moved with hm | ⟨q, hm, hq⟩
    · rw [hm]; exact h.moved
    · exact .inr ⟨q, hm, Nat.le_trans h.turned.size hq⟩
  have hne2 : kv2.ownBlock ≠ some fb := by
    rcases hmv with hm | ⟨q, hm, hq⟩
    · rw [hm]; exact h1
    · rw [hm]; intro e; cases e; omega
  refine ⟨g1, ownsRow_of_heap k.owns fun j hj => g2 j (fun e => hne2 (e ▸ hj)), Turned.setCell (h.turned.trans k.turned fun j hj => ?_) (.inl rfl) _ _, hmv, hs⟩
  rcases hj with hj | hj
  · rcases h.moved with hm | ⟨q, hm, hq⟩
    · exact .inl (.inr (.inl (hm ▸ hj)))
    · rw [hm] at hj; cases hj; exact .inr hq
  · exact .inl (.inr (.inr hj))

theorem Settling.settled {lb : Option Nat} {w wr : World} {fb n : Nat} {sv kv kv1 lv : Value} {l1 : List Nat} {own : Own} (h : Settling lb w wr fb sv kv kv1 lv l1) (F : FileA) (h2 : RowV w own (.fseen n) sv F.seen) (h3 : RowV w own (.fkept n) kv F.kept) (hkf : kv.ownBlock ≠ some fb)
    (hr : own fb = some (.file n)) (here : ∀ k r, own k = some r → k < w.heap.size) (hlb : ∀ k r, own k = some r → lb ≠ some k) :
    ∃ own', FileIs (wr.setCell ⟨fb, 2, none⟩ (.slice none 0 0)) own' n fb { F with kept := l1, laid := [] } ∧ FileStep n lb own own' w (wr.setCell ⟨fb, 2, none⟩ (.slice none 0 0)) := by
  obtain ⟨g1, g2⟩ := set_heap h.heap 2 (.slice none 0 0)
  have hT := Turned.setCell h.turned (a := fb) (.inl rfl) 2 (.slice none 0 0)
  have hne : kv1.ownBlock ≠ some fb := by
    rcases h.moved with hm | ⟨q, hm, hq⟩
    · rw [hm]; exact hkf
    · rw [hm]; intro e; cases e; have := here fb _ hr; omega
  have hown : (wr.setCell ⟨fb, 2, none⟩ (.slice none 0 0)).ownsRow 0 5 1 kv1 l1.length (cellsOf l1) := ownsRow_of_heap h.owns fun j hj => g2 j (fun e => hne (e ▸ hj))
  obtain ⟨own', s1, s2, s3, s4⟩ := own_went here h3.role h.moved (w' := wr.setCell ⟨fb, 2, none⟩ (.slice none 0 0)) (fun k hk => by
    rcases hown.2 with ⟨e, _⟩ | ⟨g, c, cur, e, _, hg, _⟩
    · rw [e] at hk; cases hk
    · rw [e] at hk; cases hk; exact (Array.getElem?_eq_some_iff.1 hg).1)
  have keepS : ∀ k, sv.ownBlock = some k → (wr.setCell ⟨fb, 2, none⟩ (.slice none 0 0)).heap[k]? = w.heap[k]? := fun k hk => hT.block k (here k _ (h2.role k hk)) (by
    have hk' := h2.role k hk
    rintro (rfl | e | e)
    · rw [hr] at hk'; cases hk'
    · have := h3.role k e; rw [hk'] at this; cases this
    · exact hlb k _ hk' e)
  refine ⟨own', ⟨⟨sv, kv1, .slice none 0 0, [], by simpa using g1, ⟨ownsRow_of_heap h2.owns keepS, fun k hk => s2 k _ (h2.role k hk), h2.small⟩, ⟨hown, s3, h.small⟩, World.ownsRow_nil _ _ _ _, fun k hk => (by cases hk), rfl⟩, s2 fb _ hr, fun _ hl _ => third_cell g1 (by simp) hl⟩, ⟨hT.weaken ?_, s1, s2, ?_⟩⟩
  · rintro k (rfl | e | e)
    · exact .inl ⟨_, hr, .inl rfl⟩
    · exact .inl ⟨_, h3.role k e, .inr (.inr (.inl rfl))⟩
    · exact .inr e
  · intro k r hk
    rcases s4 k r hk with h' | ⟨h1', h2', rfl⟩
    · exact .inl h'
    · exact .inr ⟨h1', h2', .inl (.inr (.inr (.inl rfl)))⟩

set_option maxRecDepth 100000 in
theorem settleFile_any {fid : FuncId} {first : Array Value} {S : Nat → Prop} {lb : Option Nat} {I : Nat → World → Prop} {bit : Nat → Bool} (L : Lasts fid first S lb I bit)
    (own : Own) (n fb i : Nat) (F : FileA) (w : World) (hI : I i w) (h : FileIs w own n fb F)
    (here : ∀ k r, own k = some r → k < w.heap.size) (hS : ∀ k r, own k = some r → ¬ S k) (hl : F.laid.length ≤ 1000000) (hi : i + F.laid.length * 1048576 ≤ drawLim) :
    Calls Tryz.prog 31 #[.pointer (some ⟨fb, 0, none⟩), .func (.func fid) first #[]] w fun e w' => e = .returned (.tuple #[]) ∧
      I (redoOps bit F.laid i F.kept).2 w' ∧ ∃ own', FileIs w' own' n fb { F with kept := (redoOps bit F.laid i F.kept).1, laid := [] } ∧ FileStep n lb own own' w w' := by
  obtain ⟨⟨sv, kv, lv, cs, h1, h2, h3, h4, h5, h6⟩, hr⟩ := h
  obtain ⟨p, cap, rfl⟩ : ∃ p cap, lv = .slice p F.laid.length cap := by
    rcases h4.2 with ⟨h, h2⟩ | ⟨g, cap, _, h, _⟩
    · exact ⟨none, 0, by rw [h, h2]⟩
    · exact ⟨_, cap, h⟩
  have hlb : ∀ k r, own k = some r → lb ≠ some k := fun k r hk e => hS k r hk (L.own k e)
  have hfb := here fb _ hr
  have c2 : w.cell? ⟨fb, 2, none⟩ = some (.slice p F.laid.length cap) := cells_of h1 2
  have hkf : kv.ownBlock ≠ some fb := fun e => by have := h3.role fb e; rw [hr] at this; cases this
  have hst : Settling lb w w fb sv kv kv (.slice p F.laid.length cap) F.kept := ⟨h1, h3.owns, Turned.refl _ _, .inl rfl, h3.small⟩
  have keep : ∀ wr kv1 l1, Settling lb w wr fb sv kv kv1 (.slice p F.laid.length cap) l1 → ∀ k r, own k = some r → r ≠ .file n → r ≠ .fkept n → wr.heap[k]? = w.heap[k]? := fun wr kv1 l1 hs k r hk hr1 hr2 => hs.turned.block k (here k r hk) (by
    rintro (rfl | h | h)
    · rw [hr] at hk; cases hk; exact hr1 rfl
    · rw [h3.role k h] at hk; cases hk; exact hr2 rfl
    · exact hlb k r hk h)
  have spot : ∀ k, k < F.laid.length → ∃ g c o, p = some ⟨g, 0, none⟩ ∧ own g = some (.flaid n) ∧ w.cell? ⟨g, k, none⟩ = some c ∧ F.laid[k]? = some o ∧ OpV w own c o := fun k hk => by
    have ho : F.laid[k]? = some F.laid[k] := List.getElem?_eq_getElem hk
    obtain ⟨c, hc, hop⟩ := h6.get k _ ho
    rcases h4.2 with ⟨_, h⟩ | ⟨g, cap', cur, e, _⟩
    · omega
    · simp only [Value.slice.injEq, true_and] at e
      obtain ⟨rfl, rfl⟩ := e
      have := h4.cells (g := g) rfl k c hc
      rw [Addr.add_lit] at this
      exact ⟨g, c, _, rfl, h5 g rfl, by simpa using this, ho, hop⟩
  have hSl : ∀ q, S q → q < w.heap.size := fun q hq => L.here i w q hI hq
  have HSL := Lib.hid hSl; have HI := Lib.hid hI; have HST := Lib.hid hst; have KEEP := Lib.hid keep; have SPOT := Lib.hid spot; have HLB := Lib.hid hlb; have HFB := Lib.hid hfb; have HKF := Lib.hid hkf; have HERE := Lib.hid here; have HS := Lib.hid hS; have HR := Lib.hid hr
  have H2 := Lib.hid h2; have H3 := Lib.hid h3
  clear hSl hI hst keep spot hlb hfb hkf here hS hr h1 h2 h3 h4 h5 h6
  go_enter Tryz.func31, Tryz.ntmps31
  go_wp2
  go_loopw [11] (fun x wr => ∃ (k j : Nat) (kv1 : Value) (l1 : List Nat), x = .int .i64 k ∧ k ≤ F.laid.length ∧ j ≤ i + k * 1048576 ∧ I j wr ∧ Settling lb w wr fb sv kv kv1 (.slice p F.laid.length cap) l1 ∧ redoOps bit (F.laid.drop k) j l1 = redoOps bit F.laid i F.kept) (fun x _ => F.laid.length - (intOf x).toNat)
  case atStart => exact ⟨0, i, kv, F.kept, rfl, by omega, by omega, HI.out, HST.out, rfl⟩
  case round =>
    obtain ⟨k, j, kv1, l1, rfl, hk, hjk, hIr, hset, heq⟩ := hrel
    have HIR := Lib.hid hIr; have HSET := Lib.hid hset; have HE := Lib.hid heq
    clear hIr hset heq HI HST
    by_cases hlt : k < F.laid.length
    · obtain ⟨g, c, o, rfl, hg, hc, ho, hop⟩ := SPOT.out k hlt
      have hki : (k : Int) < F.laid.length := by omega
      have gk : wr.cell? ⟨g, k, none⟩ = some c := (World.cell?_of_block (KEEP.out wr _ _ HSET.out g _ hg (by simp) (by simp))).trans hc
      have g1 : wr.cell? ⟨fb, 1, none⟩ = some kv1 := cells_of HSET.out.heap 1
      have hop' : OpV wr own c o := hop.stay (R := (· = .ink)) ⟨fun _ _ h => h, fun q r hq hr => KEEP.out wr _ _ HSET.out q r hq (by rw [hr]; simp) (by rw [hr]; simp)⟩ rfl
      have hkv : ∀ q r, own q = some r → r ≠ .fkept n → kv1.ownBlock ≠ some q := fun q r hq hr => by
        rcases HSET.out.moved with hm | ⟨q', hm, hq'⟩
        · rw [hm]; intro e; have := H3.out.role q e; rw [hq] at this; cases this; exact hr rfl
        · rw [hm]; intro e; cases e; have := HERE.out q r hq; omega
      obtain ⟨gf, fs, rfl, hent, hcall⟩ := redo_any L own o c kv1 l1 j wr HIR.out HSET.out.owns hop' (fun q hq => ⟨hkv q _ hq (by simp), HS.out q _ hq⟩) (fun q hq hSq => by
        have := HSL.out q hSq
        rcases HSET.out.moved with hm | ⟨q', hm, hq'⟩
        · rw [hm] at hq; exact HS.out q _ (H3.out.role q hq) hSq
        · rw [hm] at hq; cases hq; omega) (by omega)
      have hat := redoOp_at (bit := bit) hop j l1
      have HAT := Lib.hid hat
      clear hat
      have HCALL := Lib.hid hcall
      have HOP := Lib.hid hop
      clear hcall hop hop' hkv hc hg
      have hdrop : F.laid.drop k = o :: F.laid.drop (k + 1) := by
        rw [List.drop_eq_getElem_cons hlt]
        congr 1
        rw [List.getElem?_eq_getElem hlt] at ho
        exact Option.some.inj ho
      have next : redoOps bit (F.laid.drop (k + 1)) (redoOp bit o j l1).2 (redoOp bit o j l1).1 = redoOps bit F.laid i F.kept := by
        rw [← HE.out, hdrop]; rfl
      have NEXT := Lib.hid next
      clear next hdrop ho
      go_wp2
      refine HCALL.out.mono ?_
      rintro e w2 ⟨kv2, rfl, hI2, hrt⟩
      have hne : kv1.ownBlock ≠ some fb := by
        rcases HSET.out.moved with hm | ⟨q, hm, hq⟩
        · rw [hm]; exact HKF.out
        · rw [hm]; intro e; cases e; have := HFB.out; omega
      have hfb2 : w2.heap[fb]? = some (.cells #[sv, kv1, .slice (some ⟨g, 0, none⟩) F.laid.length cap] 75 (0, 0)) := (hrt.keeps (Nat.lt_of_lt_of_le HFB.out HSET.out.turned.size) hne (HLB.out fb _ HR.out)).trans HSET.out.heap
      have g2 : w2.cell? ⟨fb, 1, none⟩ = some kv1 := cells_of hfb2 1
      have g3 : w2.frozen? ⟨fb, 1, none⟩ = false := free_of hfb2 1
      obtain ⟨g5, g6⟩ := set_heap hfb2 1 kv2
      have hI3 : I (redoOp bit o j l1).2 (w2.setCell ⟨fb, 1, none⟩ kv2) := L.stay _ w2 _ hI2 fun q hq => g6 q (by rintro rfl; exact HS.out _ _ HR.out hq)
      have hs3 : Settling lb w (w2.setCell ⟨fb, 1, none⟩ kv2) fb sv kv kv2 (.slice (some ⟨g, 0, none⟩) F.laid.length cap) (redoOp bit o j l1).1 := HSET.out.step hrt HKF.out (HLB.out fb _ HR.out) HFB.out (redoOp_small HOP.out HSET.out.small)
      obtain ⟨pk, ck, hkv2⟩ : ∃ p c, kv2 = .slice p (redoOp bit o j l1).1.length c := by
        rcases hrt.owns.2 with ⟨h, h2⟩ | ⟨g, cap, _, h, _⟩
        · exact ⟨none, 0, by rw [h, h2]⟩
        · exact ⟨_, cap, h⟩
      have HI3 := Lib.hid hI3; have HS3 := Lib.hid hs3
      clear hI3 hs3 g5 g6 hI2 hrt hfb2 hne
      subst hkv2
      go_wp2
      go_roundw
      case rel => exact ⟨k + 1, _, _, _, by go_num, by omega, by have := HAT.out; omega, HI3.out, HS3.out, NEXT.out⟩
      case measure => simp [intOf]; omega
    · obtain rfl : k = F.laid.length := by omega
      have heq : redoOps bit F.laid i F.kept = (l1, j) := by rw [← HE.out]; simp [redoOps]
      have g2 : wr.cell? ⟨fb, 2, none⟩ = some (.slice p F.laid.length cap) := cells_of HSET.out.heap 2
      have g3 : wr.frozen? ⟨fb, 2, none⟩ = false := free_of HSET.out.heap 2
      have fin := HSET.out.settled F H2.out H3.out HKF.out HR.out HERE.out HLB.out
      have hI3 : I j (wr.setCell ⟨fb, 2, none⟩ (.slice none 0 0)) := L.stay _ wr _ HIR.out fun q hq => (set_heap HSET.out.heap 2 _).2 q (by rintro rfl; exact HS.out _ _ HR.out hq)
      have FIN := Lib.hid fin; have HEQ := Lib.hid heq; have HI3 := Lib.hid hI3
      clear fin heq hI3
      go_wp2
      go_returns
      exact ⟨rfl, by rw [HEQ.out]; exact HI3.out, by rw [HEQ.out]; exact FIN.out⟩
end Go.Proofs.YtldkeelgnfegeaaGreat

/- The disk: file.alter. -/
namespace Go.Proofs.YtldkeelgnfegeaaGreat
open Go Go.RowKit Go.By

theorem byteOpInfo : (Tryz.prog.info? 113).map (fun i => (i.zero, i.size, i.bytes)) = some (some .nilFunc, 1, 8) := by kernel_rfl
theorem byteOps : Tryz.prog.underlying 73 = some (.slice 113) := by kernel_rfl

def allBits : Nat → Bool := fun _ => true

theorem all_lasts : Lasts 57 #[] (fun _ => False) none (fun _ _ => True) allBits := always_lasts

theorem altered {own : Own} {n fb : Nat} {F : FileA} {o : ByteOp} {w w1 w2 w3 w4 : World} {sv kv lv sv1 lv1 c : Value} {cs : List Value} {l1 : List Nat} {ob : Obj} (h1 : w.heap[fb]? = some (.cells #[sv, kv, lv] 75 (0, 0)))
    (h2 : RowV w own (.fseen n) sv F.seen) (h3 : RowV w own (.fkept n) kv F.kept) (h5 : ∀ k, lv.ownBlock = some k → own k = some (.flaid n)) (h6 : OpsV w own cs F.laid) (hr : own fb = some (.file n)) (here : ∀ k r, own k = some r → k < w.heap.size) (ho : OpV w own c o)
    (hrt : RowTo (fun _ => False) none w w1 sv sv1 l1) (hs : ∀ c ∈ l1, c < 256) (e2 : w2 = w1.setCell ⟨fb, 0, none⟩ sv1) (e3 : w3 = w2.alloc ob)
    (hown : w4.ownsRow 0 113 1 lv1 (F.laid.length + 1) (cs ++ [c])) (hgrow : w3.grownBy w4 lv.ownBlock) (hat : lv1.ownBlock = lv.ownBlock ∨ lv1.ownBlock = some w3.heap.size) :
    w4.heap[fb]? = some (.cells #[sv1, kv, lv] 75 (0, 0)) ∧
    ∃ own', FileIs (w4.setCell ⟨fb, 2, none⟩ lv1) own' n fb { F with seen := l1, laid := F.laid ++ [o] } ∧ FileStep n none own own' w (w4.setCell ⟨fb, 2, none⟩ lv1) := by
  have hfb := here fb _ hr
  have hsf : sv.ownBlock ≠ some fb := fun e => by have := h2.role fb e; rw [hr] at this; cases this
  have hlf : lv.ownBlock ≠ some fb := fun e => by have := h5 fb e; rw [hr] at this; cases this
  have hs1 : ∀ g, sv1.ownBlock = some g → g ≠ fb ∧ lv.ownBlock ≠ some g := fun g hg => by
    rcases hrt.moved with hm | ⟨q, hm, hq⟩
    · rw [hm] at hg
      have hg' := h2.role g hg
      exact ⟨fun e => (by rw [e, hr] at hg'; cases hg'), fun e => (by have := h5 g e; rw [hg'] at this; cases this)⟩
    · rw [hm] at hg; cases hg
      exact ⟨by omega, fun e => (by have := here _ _ (h5 _ e); omega)⟩
  have z1 := hrt.turned.size
  have z2 : w2.heap.size = w1.heap.size := by rw [e2]; simp
  have z3 : w3.heap.size = w1.heap.size + 1 := by rw [e3]; simp [z2]
  have z4 := hgrow.size
  have z5 : (w4.setCell ⟨fb, 2, none⟩ lv1).heap.size = w4.heap.size := by simp
  have f1 : w1.heap[fb]? = some (.cells #[sv, kv, lv] 75 (0, 0)) := (hrt.keeps hfb hsf (by simp)).trans h1
  obtain ⟨g1, g2⟩ := set_heap f1 0 sv1
  rw [← e2] at g1 g2
  have f3 : w3.heap[fb]? = some (.cells #[sv1, kv, lv] 75 (0, 0)) := by rw [e3, Below.heap_alloc w2 _ _ (by omega)]; simpa using g1
  have f4 : w4.heap[fb]? = some (.cells #[sv1, kv, lv] 75 (0, 0)) := (hgrow.block fb (by omega) (fun e => hlf e.symm)).trans f3
  obtain ⟨g3, g4⟩ := set_heap f4 2 lv1
  have hT : Turned (fun j => j = fb ∨ sv.ownBlock = some j ∨ lv.ownBlock = some j) w (w4.setCell ⟨fb, 2, none⟩ lv1) := by
    refine Turned.setCell (((Turned.alloc (Turned.setCell (hrt.turned.weaken (S' := fun j => j = fb ∨ sv.ownBlock = some j ∨ lv.ownBlock = some j) ?_) (.inl rfl) 0 sv1) ob).trans (w2 := w4) (S' := fun k => lv.ownBlock = some k) ?_ ?_)) (.inl rfl) 2 lv1
    · rintro k (h | h)
      · exact .inr (.inl h)
      · cases h
    · rw [← e2, ← e3]; exact Turned.of_grown hgrow
    · exact fun j hj => .inl (.inr (.inr hj))
  have hs1w : ∀ g, sv1.ownBlock = some g → (w4.setCell ⟨fb, 2, none⟩ lv1).heap[g]? = w1.heap[g]? ∧ g < w1.heap.size := fun g hg => by
    have hlt : g < w1.heap.size := by
      rcases hrt.owns.2 with ⟨h, _⟩ | ⟨g', cap, cur, h, _, hg', _⟩
      · rw [h] at hg; cases hg
      · rw [h] at hg; cases hg; exact (Array.getElem?_eq_some_iff.1 hg').1
    refine ⟨?_, hlt⟩
    rw [g4 g (hs1 g hg).1, hgrow.block g (by omega) (fun e => (hs1 g hg).2 e.symm), e3, Below.heap_alloc w2 _ _ (by omega), g2 g (hs1 g hg).1]
  obtain ⟨o1, a1, a2, a3, a4⟩ := own_went here h2.role hrt.moved (fun k hk => (hs1w k hk).2)
  have here1 : ∀ k r, o1 k = some r → k < w3.heap.size := fun k r hk => by
    rcases a4 k r hk with h | ⟨_, h, _⟩
    · have := here k r h; omega
    · omega
  have hlv1 : ∀ k, lv1.ownBlock = some k → k ≠ fb ∧ k < w4.heap.size := fun k hk => by
    refine ⟨?_, ?_⟩
    · rcases hat with hm | hm
      · rw [hm] at hk; rintro rfl; exact hlf hk
      · rw [hm] at hk; cases hk; omega
    · rcases hown.2 with ⟨h, _⟩ | ⟨g', cap, cur, h, _, hg', _⟩
      · rw [h] at hk; cases hk
      · rw [h] at hk; cases hk; exact (Array.getElem?_eq_some_iff.1 hg').1
  obtain ⟨o2, b1, b2, b3, b4⟩ := own_went here1 (v := lv) (v' := lv1) (r := .flaid n) (w' := w4) (fun k hk => a2 k _ (h5 k hk)) (by
    rcases hat with h | h
    · exact .inl h
    · exact .inr ⟨_, h, Nat.le_refl _⟩) (fun k hk => (hlv1 k hk).2)
  have keep : ∀ k r, own k = some r → r ≠ .file n → r ≠ .fseen n → r ≠ .flaid n → (w4.setCell ⟨fb, 2, none⟩ lv1).heap[k]? = w.heap[k]? := fun k r hk q1 q2 q3 => hT.block k (here k r hk) (by
    rintro (rfl | h | h)
    · rw [hr] at hk; cases hk; exact q1 rfl
    · have := h2.role k h; rw [hk] at this; cases this; exact q2 rfl
    · have := h5 k h; rw [hk] at this; cases this; exact q3 rfl)
  have stay : Stay own o2 (· = .ink) w (w4.setCell ⟨fb, 2, none⟩ lv1) := ⟨fun k r h => b2 k r (a2 k r h), fun k r hk hr' => keep k r hk (by rw [hr']; simp) (by rw [hr']; simp) (by rw [hr']; simp)⟩
  refine ⟨f4, o2, ⟨⟨sv1, kv, lv1, cs ++ [c], by simpa using g3, ⟨ownsRow_of_heap hrt.owns fun k hk => (hs1w k hk).1, fun k hk => b2 k _ (a3 k hk), hs⟩,
    ⟨ownsRow_of_heap h3.owns fun k hk => keep k _ (h3.role k hk) (by simp) (by simp) (by simp), fun k hk => b2 k _ (a2 k _ (h3.role k hk)), h3.small⟩, ?_, b3, OpsV.snoc (ho.stay stay rfl) (h6.stay stay rfl)⟩, b2 fb _ (a2 fb _ hr), fun _ _ h0 => absurd h0 (by simp)⟩, ⟨hT.weaken ?_, ?_, fun k r h => b2 k r (a2 k r h), ?_⟩⟩
  · simp only [List.length_append, List.length_cons, List.length_nil, Nat.zero_add]
    exact ownsRow_of_heap hown fun k hk => g4 k (hlv1 k hk).1
  · rintro k (rfl | e | e)
    · exact .inl ⟨_, hr, .inl rfl⟩
    · exact .inl ⟨_, h2.role k e, .inr (.inl rfl)⟩
    · exact .inl ⟨_, h5 k e, .inr (.inr (.inr rfl))⟩
  · intro k hk
    rw [b1 k (by omega), a1 k hk]
  · intro k r hk
    rcases b4 k r hk with h' | ⟨q1, q2, rfl⟩
    · rcases a4 k r h' with h' | ⟨q1, q2, rfl⟩
      · exact .inl h'
      · exact .inr ⟨q1, by omega, .inl (.inr (.inl rfl))⟩
    · exact .inr ⟨by omega, by omega, .inl (.inr (.inr (.inr rfl)))⟩

set_option maxRecDepth 100000 in
theorem alterFile_any (own : Own) (n fb : Nat) (F : FileA) (c : Value) (o : ByteOp) (w : World) (h : FileIs w own n fb F) (ho : OpV w own c o)
    (here : ∀ k r, own k = some r → k < w.heap.size) (hl : F.laid.length < 1000000) :
    Calls Tryz.prog 50 #[.pointer (some ⟨fb, 0, none⟩), c] w fun e w' => e = .returned (.int .i64 (((redoOp allBits o 0 F.seen).1.length : Int) - F.seen.length)) ∧
      ∃ own', FileIs w' own' n fb { F with seen := (redoOp allBits o 0 F.seen).1, laid := F.laid ++ [o] } ∧ FileStep n none own own' w w' := by
  obtain ⟨⟨sv, kv, lv, cs, h1, h2, h3, h4, h5, h6⟩, hr⟩ := h
  have hfb := here fb _ hr
  have hsf : sv.ownBlock ≠ some fb := fun e => by have := h2.role fb e; rw [hr] at this; cases this
  obtain ⟨gf, fs, rfl, hent, hcall⟩ := redo_any all_lasts own o c sv F.seen 0 w trivial h2.owns ho (fun q hq => ⟨fun e => (by have := h2.role q e; rw [hq] at this; cases this), fun h => h⟩) (fun _ _ h => h) (by unfold drawLim; omega)
  obtain ⟨ps, cps, hsv⟩ : ∃ p c, sv = .slice p F.seen.length c := by
    rcases h2.owns.2 with ⟨h, h2⟩ | ⟨g, cap, _, h, _⟩
    · exact ⟨none, 0, by rw [h, h2]⟩
    · exact ⟨_, cap, h⟩
  have c0 : w.cell? ⟨fb, 0, none⟩ = some sv := cells_of h1 0
  have hrest : ∀ w1 sv1 l1, RowTo (fun _ => False) none w w1 sv sv1 l1 → w1.heap[fb]? = some (.cells #[sv, kv, lv] 75 (0, 0)) := fun w1 sv1 l1 h => (h.keeps hfb hsf (by simp)).trans h1
  have HREST := Lib.hid hrest; have HO := Lib.hid ho; have HCALL := Lib.hid hcall; have HFB := Lib.hid hfb; have HSF := Lib.hid hsf; have HR := Lib.hid hr; have HERE := Lib.hid here
  have H1 := Lib.hid h1; have H2 := Lib.hid h2; have H3 := Lib.hid h3; have H4 := Lib.hid h4; have H5 := Lib.hid h5; have H6 := Lib.hid h6
  clear hrest ho hcall hfb hsf hr here h1 h2 h3 h4 h5 h6
  subst hsv
  go_enter Tryz.func50, Tryz.ntmps50
  go_wp2_with fail
  refine HCALL.out.mono ?_
  rintro e w1 ⟨sv1, rfl, _, hrt⟩
  have f1 := HREST.out w1 sv1 _ hrt
  have g1 : w1.cell? ⟨fb, 0, none⟩ = some (.slice ps F.seen.length cps) := cells_of f1 0
  have g2 : w1.frozen? ⟨fb, 0, none⟩ = false := free_of f1 0
  obtain ⟨g5, g6⟩ := set_heap f1 0 sv1
  have g7 : (w1.setCell ⟨fb, 0, none⟩ sv1).cell? ⟨fb, 2, none⟩ = some lv := (cells_of g5 2).trans (by simp)
  have HRT := Lib.hid hrt; have G5 := Lib.hid g5
  have hsm := redoOp_small (bit := allBits) HO.out (i := 0) H2.out.small
  have HSM := Lib.hid hsm
  have ho4 : (w1.setCell ⟨fb, 0, none⟩ sv1).ownsRow 0 113 1 lv F.laid.length cs := ownsRow_of_heap H4.out fun k hk => (g6 k (by
    rintro rfl; have := H5.out k hk; rw [HR.out] at this; cases this)).trans (hrt.keeps (HERE.out k _ (H5.out k hk)) (fun e => by have := H2.out.role k e; rw [H5.out k hk] at this; cases this) (by simp))
  have HO4 := Lib.hid ho4
  obtain ⟨p1, cp1, hsv1⟩ : ∃ p c, sv1 = .slice p (redoOp allBits o 0 F.seen).1.length c := by
    rcases hrt.owns.2 with ⟨h, h2⟩ | ⟨g, cap, _, h, _⟩
    · exact ⟨none, 0, by rw [h, h2]⟩
    · exact ⟨_, cap, h⟩
  clear hrt g5 g6 hsm ho4
  subst hsv1
  obtain ⟨i0, hi, hz0, hz1, hz2⟩ := info_parts byteOpInfo
  have HI := Lib.hid hi; have Z0 := Lib.hid hz0; have Z1 := Lib.hid hz1; have Z2 := Lib.hid hz2
  clear hi hz0 hz1 hz2
  obtain ⟨sv1, hsv1⟩ : ∃ v, v = (Value.slice p1 (redoOp allBits o 0 F.seen).1.length cp1) := ⟨_, rfl⟩
  have g8 : (w1.setCell ⟨fb, 0, none⟩ (.slice p1 (redoOp allBits o 0 F.seen).1.length cp1)).heap.size = w1.heap.size := by simp
  have G8 := Lib.hid g8; clear g8
  go_wp2_with (at_builtin; refine wpList_append_own_at _ rfl (.tmp 24) (.tmp 26) 73 rfl 0 113 i0 .nilFunc 1 8 byteOps HI.out Z0.out Z1.out Z2.out rfl (by decide) lv F.laid.length cs rfl (HO4.out.alloc _) ⟨w1.heap.size, 0, none⟩ 1 1 [.func (.func gf) fs #[]] rfl rfl ?c1 ?c2 ?c3 ?c4 ?c5 ?c6)
  case c1 =>
    intro j u hu
    match j with
    | 0 =>
      simp at hu; subst hu
      have := World.cell?_alloc_new (w1.setCell ⟨fb, 0, none⟩ (.slice p1 (redoOp allBits o 0 F.seen).1.length cp1)) #[.func (.func gf) fs #[]] 113 0
      rw [G8.out] at this
      exact this
    | j + 1 => simp at hu
  case c2 => intro u hu; simp at hu; subst hu; rfl
  case c3 => unfold maxLen; omega
  case c4 => omega
  case c5 => omega
  intro v2 w4 hown hgrow _ hat
  have fin := altered H1.out H2.out H3.out H5.out H6.out HR.out HERE.out HO.out HRT.out HSM.out rfl rfl hown hgrow (by simpa using hat)
  obtain ⟨f4, hfin⟩ := fin
  have FIN := Lib.hid hfin
  obtain ⟨p2, c2, rfl⟩ : ∃ p c, v2 = .slice p (F.laid.length + 1) c := by
    rcases hown.2 with ⟨_, h⟩ | ⟨g, c, _, h, _⟩
    · omega
    · exact ⟨_, c, h⟩
  have g9 : w4.cell? ⟨fb, 2, none⟩ = some lv := cells_of f4 2
  have g10 : w4.frozen? ⟨fb, 2, none⟩ = false := free_of f4 2
  obtain ⟨q1, q2⟩ := set_heap f4 2 (.slice p2 (F.laid.length + 1) c2)
  have g11 : (w4.setCell ⟨fb, 2, none⟩ (.slice p2 (F.laid.length + 1) c2)).cell? ⟨fb, 0, none⟩ = some (.slice p1 (redoOp allBits o 0 F.seen).1.length cp1) := (cells_of q1 0).trans (by simp)
  have hlen : (redoOp allBits o 0 F.seen).1.length ≤ 9223372036854775807 := by
    rcases HRT.out.owns.2 with ⟨_, h2⟩ | ⟨g, cap, _, h, _, _, h2, h3, _⟩
    · omega
    · unfold maxLen at h3; omega
  have hlen2 : F.seen.length ≤ 9223372036854775807 := by
    rcases H2.out.owns.2 with ⟨_, h2⟩ | ⟨g, cap, _, h, _, _, h2, h3, _⟩
    · omega
    · unfold maxLen at h3; omega
  clear hown hgrow hat hfin q1 q2 f4
  go_wp2
  go_ret
  exact ⟨rfl, FIN.out⟩
end Go.Proofs.YtldkeelgnfegeaaGreat

/- The disk: Sync. -/
namespace Go.Proofs.YtldkeelgnfegeaaGreat
open Go Go.RowKit Go.By

def DiskA.withFile (D : DiskA) (n : Nat) (F : FileA) : DiskA := { D with cont := fun k => if k = n then F else D.cont k }
theorem DiskA.withFile_ok {D : DiskA} (h : D.Ok) (n : Nat) (F : FileA) : (D.withFile n F).Ok := ⟨h.seenIn, h.keptIn, h.laidIn, h.made⟩
theorem DiskA.used_ok {D : DiskA} (h : D.Ok) (u : Int) : ({ D with used := u } : DiskA).Ok := ⟨h.seenIn, h.keptIn, h.laidIn, h.made⟩
theorem DiskA.begin_ok {D : DiskA} (h : D.Ok) (m : Bool) : (D.begin m).1.Ok := by
  unfold DiskA.begin; split <;> exact ⟨h.seenIn, h.keptIn, h.laidIn, h.made⟩
theorem DiskA.begin_same (D : DiskA) (m : Bool) : (D.begin m).1.seen = D.seen ∧ (D.begin m).1.kept = D.kept ∧ (D.begin m).1.laid = D.laid ∧ (D.begin m).1.fm = D.fm ∧ (D.begin m).1.cont = D.cont ∧ (D.begin m).1.room = D.room ∧ (D.begin m).1.used = D.used ∧ (D.begin m).1.made = D.made ∧ (D.begin m).1.ops = D.ops + 1 ∧ (D.begin m).1.left ≤ D.left := by
  unfold DiskA.begin; split
  · exact ⟨rfl, rfl, rfl, rfl, rfl, rfl, rfl, rfl, rfl, Nat.zero_le _⟩
  · exact ⟨rfl, rfl, rfl, rfl, rfl, rfl, rfl, rfl, rfl, Nat.sub_le _ _⟩

theorem FileStep.keeps {n : Nat} {lb : Option Nat} {own own' : Own} {w w' : World} (hs : FileStep n lb own own' w w') (here : ∀ k r, own k = some r → k < w.heap.size) (hlb : ∀ k r, own k = some r → lb ≠ some k) :
    Stay own own' (fun r => ¬ ofFile n r) w w' := ⟨hs.role, fun k r hk hr => hs.turned.block k (here k r hk) (by
      rintro (⟨r', h1, h2⟩ | h)
      · rw [hk] at h1; cases h1; exact hr h2
      · exact hlb k r hk h)⟩
theorem FileStep.steps {n : Nat} {own own' : Own} {w w' : World} (hs : FileStep n none own own' w w') : Steps own own' w w' :=
  ⟨hs.turned.os, hs.turned.tape, hs.turned.output, hs.turned.size, fun k hk hn => hs.turned.block k hk (by
    rintro (⟨r, h1, h2⟩ | h)
    · rcases hn with hn | hn
      · rw [hn] at h1; cases h1
      · rw [hn] at h1; cases h1; rcases h2 with h | h | h | h <;> cases h
    · cases h), hs.same⟩

theorem DiskIs.filed {w w' : World} {own own' : Own} {a n fb : Nat} {D : DiskA} {F : FileA} {lb : Option Nat} (h : DiskIs w own a D) (hn : Mp.get D.fm n = some fb) (hf : FileIs w' own' n fb F) (hs : FileStep n lb own own' w w') (hlb : ∀ k r, own k = some r → lb ≠ some k) :
    DiskIs w' own' a (D.withFile n F) := by
  have hst := hs.keeps h.here hlb
  obtain ⟨ms, mk, mf, lv, h1, h2⟩ := h.out
  have nf : ∀ r : Role, (∀ m, r ≠ .file m) → (∀ m, r ≠ .fseen m) → (∀ m, r ≠ .fkept m) → (∀ m, r ≠ .flaid m) → ¬ ofFile n r := fun r q1 q2 q3 q4 h => by
    rcases h with h | h | h | h
    · exact q1 n h
    · exact q2 n h
    · exact q3 n h
    · exact q4 n h
  refine ⟨⟨ms, mk, mf, lv, (hst.block a _ h.role (nf _ (by simp) (by simp) (by simp) (by simp))).trans h1, ?_⟩, hs.role a _ h.role, fun k hk => ?_, fun k r hk => ?_⟩
  · refine ⟨h2.seen.stay hst (nf _ (by simp) (by simp) (by simp) (by simp)), h2.kept.stay hst (nf _ (by simp) (by simp) (by simp) (by simp)), ownsRow_of_heap h2.laid fun k hk => hst.block k _ (h2.laidR k hk) (nf _ (by simp) (by simp) (by simp) (by simp)),
      fun k hk => hs.role k _ (h2.laidR k hk), h2.files.stay hst (nf _ (by simp) (by simp) (by simp) (by simp)), fun m fb' hm => ?_, h2.bare, h2.full, h2.bareL⟩
    by_cases he : m = n
    · subst he
      have e : fb = fb' := by
        have hm' : Mp.get D.fm m = some fb' := hm
        rw [hn] at hm'; exact Option.some.inj hm'
      subst e
      show FileIs w' own' m fb (if m = m then F else D.cont m)
      rw [if_pos rfl]; exact hf
    · show FileIs w' own' m fb' (if m = n then F else D.cont m)
      rw [if_neg he]
      have hne : ∀ r, (r = Role.file m ∨ r = .fseen m ∨ r = .fkept m ∨ r = .flaid m ∨ r = .ink) → ¬ ofFile n r := by
        rintro r (rfl | rfl | rfl | rfl | rfl) <;> unfold ofFile <;> simp [he]
      exact (h2.each m fb' hm).stay hst (hne _ (.inl rfl)) (hne _ (.inr (.inl rfl))) (hne _ (.inr (.inr (.inl rfl)))) (hne _ (.inr (.inr (.inr (.inl rfl))))) (hne _ (.inr (.inr (.inr (.inr rfl)))))
  · rcases hs.new k _ hk with h' | ⟨_, _, h' | h'⟩
    · exact h.only k h'
    · exact absurd h' (nf _ (by simp) (by simp) (by simp) (by simp))
    · cases h'
  · rcases hs.new k _ hk with h' | ⟨_, h', _⟩
    · exact Nat.lt_of_lt_of_le (h.here k r h') hs.turned.size
    · exact h'

/-- What an operation on a file tells. -/
def Filed (own : Own) (a : Nat) (D1 : DiskA) (err : Int) (s : ByteArray) (post : Nat → Int → DiskA → Prop) (w : World) (e : Ending) (w' : World) : Prop :=
  ∃ own', Steps own own' w w' ∧ ((err ≠ 0 ∧ e = .returned (.int .i64 err) ∧ DiskIs w' own' a D1) ∨ (err = 0 ∧ Mp.get D1.seen s = none ∧ e = .returned (.int .i64 3) ∧ DiskIs w' own' a D1) ∨
    (err = 0 ∧ ∃ n x D2, Mp.get D1.seen s = some n ∧ post n x D2 ∧ e = .returned (.int .i64 x) ∧ DiskIs w' own' a D2))

def FileA.settle (F : FileA) : FileA := { F with kept := (redoOps allBits F.laid 0 F.kept).1, laid := [] }

set_option maxRecDepth 100000 in
theorem sync_any (own : Own) (a : Nat) (D : DiskA) (s : ByteArray) (w : World) (h : DiskIs w own a D) (hk : D.Ok) (ho : D.ops < 4611686018427387904) (hl : D.left < 4611686018427387904) (hs : s.size ≤ maxLen) (hll : ∀ n, (D.cont n).laid.length ≤ 1000000) :
    Calls Tryz.prog 29 #[.pointer (some ⟨a, 0, none⟩), .string s] w (Filed own a (D.begin (mayName s)).1 (D.begin (mayName s)).2 s (fun n x D2 => x = 0 ∧ D2 = (D.begin (mayName s)).1.withFile n (D.cont n).settle) w) := by
  have hfind := find_any own a D s true w h hk ho hl hs
  rw [Bool.true_and] at hfind
  obtain ⟨D1, hD1⟩ : ∃ D1, D1 = (D.begin (mayName s)).1 := ⟨_, rfl⟩
  obtain ⟨err, herr⟩ : ∃ err, err = (D.begin (mayName s)).2 := ⟨_, rfl⟩
  have hc : D.cont = D1.cont := by rw [hD1]; exact (D.begin_same _).2.2.2.2.1.symm
  rw [← hD1, ← herr] at hfind ⊢
  rw [hc] at hll ⊢
  have HF := Lib.hid hfind; have HLL := Lib.hid hll
  clear hfind h hk ho hl hD1 herr hc hll
  go_enter Tryz.func29, Tryz.ntmps29
  go_wp2_with fail
  refine HF.out.mono ?_
  rintro e w1 ⟨hd, hst, ⟨he, rfl⟩ | ⟨rfl, hg, rfl⟩ | ⟨rfl, n, fb, hg, hfb, rfl⟩⟩
  · have HD := Lib.hid hd; have HST := Lib.hid hst; clear hd hst
    go_wp2
    go_ret
    exact ⟨own, HST.out, .inl ⟨he, rfl, HD.out⟩⟩
  · have HD := Lib.hid hd; have HST := Lib.hid hst; have HG := Lib.hid hg; clear hd hst hg
    go_wp2
    go_ret
    exact ⟨own, HST.out, .inr (.inl ⟨rfl, HG.out, rfl, HD.out⟩)⟩
  · obtain ⟨ms, mk, mf, lv, h1, h2⟩ := hd.out
    have hfile := h2.each n fb hfb
    have hset := settleFile_any all_lasts own n fb 0 (D1.cont n) w1 trivial hfile hd.here (fun _ _ _ h => h) (HLL.out n) (by have := HLL.out n; unfold drawLim; omega)
    have HD := Lib.hid hd; have HST := Lib.hid hst; have HG := Lib.hid hg; have HSET := Lib.hid hset; have HFB := Lib.hid hfb
    clear hd hst hg hset h1 h2 hfile hfb
    go_wp2_with fail
    refine HSET.out.mono ?_
    rintro e w2 ⟨rfl, _, own2, hf2, hs2⟩
    have fin := HD.out.filed HFB.out hf2 hs2 (by simp)
    have FIN := Lib.hid fin; have ST2 := Lib.hid (HST.out.trans hs2.steps)
    clear fin hf2 hs2
    go_wp2
    go_ret
    exact ⟨own2, ST2.out, .inr (.inr ⟨rfl, n, 0, _, HG.out, ⟨rfl, rfl⟩, rfl, FIN.out⟩)⟩
end Go.Proofs.YtldkeelgnfegeaaGreat

/- The disk: hasRoom, Truncate. -/
namespace Go.Proofs.YtldkeelgnfegeaaGreat
open Go Go.RowKit Go.By

def DiskA.hasRoom (D : DiskA) (n : Nat) (size : Int) : Bool := decide (size - ((D.cont n).seen.length : Int) ≤ 0) || decide (size - ((D.cont n).seen.length : Int) ≤ D.room - D.used)

set_option maxRecDepth 100000 in
theorem hasRoom_any (own : Own) (a n fb : Nat) (D : DiskA) (size : Int) (w : World) (h : DiskIs w own a D) (hn : Mp.get D.fm n = some fb) (hr : 0 ≤ D.room ∧ D.room ≤ 9223372036854775807) (hu : 0 ≤ D.used ∧ D.used ≤ 4611686018427387904) (hsz : 0 ≤ size ∧ size ≤ 4611686018427387904) :
    Calls Tryz.prog 49 #[.pointer (some ⟨a, 0, none⟩), .pointer (some ⟨fb, 0, none⟩), .int .i64 size] w fun e w' => e = .returned (.bool (D.hasRoom n size)) ∧ w'.heap = w.heap ∧ DiskIs w' own a D ∧ Steps own own w w' := by
  have hfin : ∀ q, (w.drewN q).heap = w.heap ∧ DiskIs (w.drewN q) own a D ∧ Steps own own w (w.drewN q) := fun q => by
    have hh : (w.drewN q).heap = w.heap := rfl
    have hst : Steps own own w (w.drewN q) := ⟨rfl, rfl, rfl, Nat.le_refl _, fun k _ _ => rfl, fun _ _ => rfl⟩
    exact ⟨hh, h.turn (fun k _ => rfl) (Nat.le_refl _) (fun ms mk mf lv q1 q2 => ⟨ms, mk, mf, lv, q1, q2⟩), hst⟩
  have HFIN := Lib.hid hfin; clear hfin
  obtain ⟨ms, mk, mf, lv, h1, h2⟩ := h.out
  obtain ⟨⟨sv, kv, lv', cs, f1, f2, f3, f4, f5, f6⟩, fr⟩ := h2.each n fb hn
  have g0 : w.cell? ⟨a, 0, none⟩ = some (.int .i64 D.room) := cells_of h1 0
  have g1 : w.cell? ⟨a, 1, none⟩ = some (.int .i64 D.used) := cells_of h1 1
  have g2 : w.cell? ⟨fb, 0, none⟩ = some sv := cells_of f1 0
  have hlen : (D.cont n).seen.length ≤ maxLen := by
    rcases f2.owns.2 with ⟨_, h2⟩ | ⟨g, cap, _, h, _, _, h2, h3, _⟩
    · omega
    · omega
  obtain ⟨ps, cps, rfl⟩ : ∃ p c, sv = .slice p (D.cont n).seen.length c := by
    rcases f2.owns.2 with ⟨h, h2⟩ | ⟨g, cap, _, h, _⟩
    · exact ⟨none, 0, by rw [h, h2]⟩
    · exact ⟨_, cap, h⟩
  have hm : ((D.cont n).seen.length : Int) ≤ 9223372036854775807 := by unfold maxLen at hlen; omega
  have hdef : D.hasRoom n size = (decide (size - ((D.cont n).seen.length : Int) ≤ 0) || decide (size - ((D.cont n).seen.length : Int) ≤ D.room - D.used)) := rfl
  have HDEF := Lib.hid hdef
  clear h h1 h2 f1 f2 f3 f4 f5 f6 fr hn hlen hdef
  obtain ⟨hr1, hr2⟩ := hr
  obtain ⟨hu1, hu2⟩ := hu
  obtain ⟨hs1, hs2⟩ := hsz
  generalize D.hasRoom n size = hb at *
  generalize (D.cont n).seen.length = len at *
  by_cases h1 : size - (len : Int) ≤ 0
  · have e : hb = true := by rw [HDEF.out]; simp [h1]
    subst e
    clear HDEF
    go_enter Tryz.func49, Tryz.ntmps49
    go_wp2
    go_quiet (fail)
    go_wp2
    go_ret
    exact ⟨rfl, HFIN.out _⟩
  · have hw : IntKind.i64.wrap (D.room - D.used) = D.room - D.used := IntWalk.i64_in _ (by omega)
    have d1 : decide (size - (len : Int) ≤ 0) = false := by simp [h1]
    by_cases h2 : size - (len : Int) ≤ D.room - D.used
    · have e : hb = true := by rw [HDEF.out]; simp [h2]
      subst e
      clear HDEF
      first
        | have d2 : decide (size - (len : Int) ≤ D.room - D.used) = true := decide_eq_true h2
        | have d2 : decide (size - (len : Int) ≤ D.room - D.used) = false := decide_eq_false h2
      go_enter Tryz.func49, Tryz.ntmps49
      go_wp2
      go_quiet (fail)
      go_wp2
      go_ret
      exact ⟨rfl, HFIN.out _⟩
    · have e : hb = false := by rw [HDEF.out]; simp [h1, h2]
      subst e
      clear HDEF
      first
        | have d2 : decide (size - (len : Int) ≤ D.room - D.used) = true := decide_eq_true h2
        | have d2 : decide (size - (len : Int) ≤ D.room - D.used) = false := decide_eq_false h2
      go_enter Tryz.func49, Tryz.ntmps49
      go_wp2
      go_quiet (fail)
      go_wp2
      go_ret
      exact ⟨rfl, HFIN.out _⟩
end Go.Proofs.YtldkeelgnfegeaaGreat

/- The disk: Truncate. -/
namespace Go.Proofs.YtldkeelgnfegeaaGreat
open Go Go.RowKit Go.By

def FileA.alter (F : FileA) (o : ByteOp) : FileA := { F with seen := (redoOp allBits o 0 F.seen).1, laid := F.laid ++ [o] }
def FileA.more (F : FileA) (o : ByteOp) : Int := ((F.alter o).seen.length : Int) - F.seen.length
def DiskA.alterFile (D : DiskA) (n : Nat) (o : ByteOp) : DiskA :=
  { D.withFile n ((D.cont n).alter o) with used := D.used + (D.cont n).more o }
def DiskA.truncate (D : DiskA) (n : Nat) (size : Int) (x : Int) (D2 : DiskA) : Prop :=
  (D.hasRoom n size = false ∧ x = 4 ∧ D2 = D) ∨ (D.hasRoom n size = true ∧ x = 0 ∧ D2 = D.alterFile n (.cut size.toNat))

theorem alterDisk_any (own : Own) (a n fb : Nat) (D : DiskA) (c : Value) (o : ByteOp) (w : World) (h : DiskIs w own a D) (hn : Mp.get D.fm n = some fb) (ho : OpV w own c o) (hl : (D.cont n).laid.length < 1000000) :
    Calls Tryz.prog 50 #[.pointer (some ⟨fb, 0, none⟩), c] w fun e w' => e = .returned (.int .i64 ((D.cont n).more o)) ∧ w'.cell? ⟨a, 1, none⟩ = some (.int .i64 D.used) ∧ w'.frozen? ⟨a, 1, none⟩ = false ∧
      ∃ own', Steps own own' w (w'.setCell ⟨a, 1, none⟩ (.int .i64 (D.used + (D.cont n).more o))) ∧ DiskIs (w'.setCell ⟨a, 1, none⟩ (.int .i64 (D.used + (D.cont n).more o))) own' a (D.alterFile n o) := by
  obtain ⟨ms, mk, mf, lv, h1, h2⟩ := h.out
  refine (alterFile_any own n fb (D.cont n) c o w (h2.each n fb hn) ho h.here hl).mono ?_
  rintro e w' ⟨rfl, own', hf, hs⟩
  have hd := h.filed hn hf hs (by simp)
  obtain ⟨ms', mk', mf', lv', g1, g2⟩ := hd.out
  obtain ⟨q1, q2⟩ := hd.setUsed (D.used + (D.cont n).more o)
  exact ⟨rfl, cells_of g1 1, free_of g1 1, own', hs.steps.trans q2, q1⟩

set_option maxRecDepth 100000 in
set_option maxHeartbeats 200000 in
theorem truncate_any (own : Own) (a : Nat) (D : DiskA) (s : ByteArray) (size : Int) (w : World) (h : DiskIs w own a D) (hk : D.Ok) (ho : D.ops < 4611686018427387904) (hl : D.left < 4611686018427387904) (hs : s.size ≤ maxLen) (hll : ∀ n, (D.cont n).laid.length < 1000000)
    (hr : 0 ≤ D.room ∧ D.room ≤ 9223372036854775807) (hu : 0 ≤ D.used ∧ D.used ≤ 4611686018427387904) (hlen : ∀ n, (D.cont n).seen.length ≤ 1099511627776) :
    Calls Tryz.prog 22 #[.pointer (some ⟨a, 0, none⟩), .string s, .int .i64 size] w (Filed own a (D.begin (mayNumber size && mayName s)).1 (D.begin (mayNumber size && mayName s)).2 s ((D.begin (mayNumber size && mayName s)).1.truncate · size) w) := by
  have hfind := find_any own a D s (mayNumber size) w h hk ho hl hs
  have hsame := D.begin_same (mayNumber size && mayName s)
  have herr2 : (D.begin (mayNumber size && mayName s)).2 = 0 → mayNumber size = true := by
    unfold DiskA.begin
    split
    · intro h; cases h
    · intro h
      cases hm : mayNumber size
      · rw [hm] at h; simp at h
      · rfl
  obtain ⟨D1, hD1⟩ : ∃ D1, D1 = (D.begin (mayNumber size && mayName s)).1 := ⟨_, rfl⟩
  obtain ⟨err, herr⟩ : ∃ err, err = (D.begin (mayNumber size && mayName s)).2 := ⟨_, rfl⟩
  rw [← hD1] at hsame
  rw [← herr] at herr2
  rw [← hD1, ← herr] at hfind ⊢
  obtain ⟨_, _, _, _, hc, hro, hus, _⟩ := hsame
  rw [← hc] at hll hlen
  rw [← hro] at hr
  rw [← hus] at hu
  have HF := Lib.hid hfind; have HLL := Lib.hid hll; have HR := Lib.hid hr; have HU := Lib.hid hu; have HLEN := Lib.hid hlen; have HE2 := Lib.hid herr2
  clear hfind h hk ho hl hD1 herr hc hro hus hll hr hu hlen herr2
  obtain ⟨mn, hmn⟩ : ∃ mn, mn = mayNumber size := ⟨_, rfl⟩
  have hmay := fun w0 => mayNumber_any size w0
  rw [← hmn] at HF HE2 hmay
  have HMN := Lib.hid hmn; have HMAY := Lib.hid hmay
  clear hmn hmay
  go_enter Tryz.func22, Tryz.ntmps22
  go_wp2_with (go_at_call 48; refine (HMAY.out _).mono ?_; rintro e w1 ⟨rfl, rfl⟩)
  refine HF.out.mono ?_
  rintro e w1 ⟨hd, hst, ⟨he, rfl⟩ | ⟨rfl, hg, rfl⟩ | ⟨rfl, n, fb, hg, hfb, rfl⟩⟩
  · have HD := Lib.hid hd; have HST := Lib.hid hst; clear hd hst
    go_wp2
    go_ret
    exact ⟨own, HST.out, .inl ⟨he, rfl, HD.out⟩⟩
  · have HD := Lib.hid hd; have HST := Lib.hid hst; have HG := Lib.hid hg; clear hd hst hg
    go_wp2
    go_ret
    exact ⟨own, HST.out, .inr (.inl ⟨rfl, HG.out, rfl, HD.out⟩)⟩
  · have hsz : 0 ≤ size ∧ size ≤ 16777216 := by
      have := HMN.out.symm.trans (HE2.out rfl)
      unfold mayNumber at this
      simpa using this
    have hroom := hasRoom_any own a n fb D1 size w1 hd hfb HR.out HU.out (by omega)
    have HD := Lib.hid hd; have HST := Lib.hid hst; have HG := Lib.hid hg; have HFB := Lib.hid hfb; have HROOM := Lib.hid hroom
    clear hd hst hg hfb hroom
    go_wp2_with fail
    refine HROOM.out.mono ?_
    rintro e w2 ⟨rfl, _, hd2, hst2⟩
    cases hrm : D1.hasRoom n size
    · have HRM := Lib.hid hrm; have HD2 := Lib.hid hd2; have ST2 := Lib.hid (HST.out.trans hst2)
      clear hrm hd2 hst2
      go_wp2
      go_ret
      exact ⟨own, ST2.out, .inr (.inr ⟨rfl, n, 4, _, HG.out, .inl ⟨HRM.out, rfl, rfl⟩, rfl, HD2.out⟩)⟩
    · obtain ⟨m, rfl⟩ : ∃ m : Nat, size = m := ⟨size.toNat, by omega⟩
      have halt : ∀ w0 : World, w0.heap = w2.heap → w0.os = w2.os → w0.tape = w2.tape → w0.output = w2.output → Calls Tryz.prog 50 #[.pointer (some ⟨fb, 0, none⟩), .func (.func 51) #[.agg #[.int .i64 m]] #[]] w0 fun e w' => e = .returned (.int .i64 ((D1.cont n).more (.cut m))) ∧ w'.cell? ⟨a, 1, none⟩ = some (.int .i64 D1.used) ∧ w'.frozen? ⟨a, 1, none⟩ = false ∧
          ∃ own', Steps own own' w (w'.setCell ⟨a, 1, none⟩ (.int .i64 (D1.used + (D1.cont n).more (.cut m)))) ∧ DiskIs (w'.setCell ⟨a, 1, none⟩ (.int .i64 (D1.used + (D1.cont n).more (.cut m)))) own' a (D1.alterFile n (.cut m)) := fun w0 e1 e2 e3 e4 => by
        have hs0 : Steps own own w2 w0 := ⟨e2, e3, e4, by rw [e1]; exact Nat.le_refl _, fun k _ _ => by rw [e1], fun _ _ => rfl⟩
        have hd0 : DiskIs w0 own a D1 := hd2.turn (fun k _ => by rw [e1]) (by rw [e1]; exact Nat.le_refl _) (fun ms mk mf lv q1 q2 => ⟨ms, mk, mf, lv, by rw [e1]; exact q1, q2⟩)
        refine (alterDisk_any own a n fb D1 _ (.cut m) w0 hd0 HFB.out ⟨rfl, by omega⟩ (HLL.out n)).mono ?_
        rintro e w' ⟨q1, q2, q3, own', q4, q5⟩
        exact ⟨q1, q2, q3, own', ((HST.out.trans hst2).trans hs0).trans q4, q5⟩
      have hx : -1099511627777 ≤ (D1.cont n).more (.cut m) ∧ (D1.cont n).more (.cut m) ≤ 16777217 := by
        have := HLEN.out n
        have e : ((D1.cont n).alter (.cut m)).seen.length = m := by
          show (redoOp allBits (.cut m) 0 (D1.cont n).seen).1.length = m
          show (if allBits 0 then fitL (D1.cont n).seen m else (D1.cont n).seen).length = m
          simp [allBits, fitL_length]
        unfold FileA.more
        rw [e]
        omega
      have hfin : D1.truncate n m 0 (D1.alterFile n (.cut m)) := .inr ⟨hrm, rfl, by simp⟩
      obtain ⟨ms, mk, mf, lv, h1, _⟩ := hd2.out
      have g1 : w2.cell? ⟨a, 1, none⟩ = some (.int .i64 D1.used) := cells_of h1 1
      have HRM := Lib.hid hrm; have HALT := Lib.hid halt; have HFIN := Lib.hid hfin
      obtain ⟨hx1, hx2⟩ := hx
      obtain ⟨hu1, hu2⟩ := HU.out
      generalize (D1.cont n).more (.cut m) = x at *
      have hw : IntKind.i64.wrap (D1.used + x) = D1.used + x := IntWalk.i64_in _ (by omega)
      clear hrm hd2 hst2 halt hfin h1 hx1 hx2 hu1 hu2
      go_wp2
      go_region_with (go_at_call 50; refine (HALT.out _ (by rfl) (by rfl) (by rfl) (by rfl)).mono ?_; rintro e w3 ⟨rfl, k1, k2, k3⟩)
      all_goals
        have K3 := Lib.hid k3
        clear k1 k2 k3
        go_wp2
        go_ret
        obtain ⟨own3, k4, k5⟩ := K3.out
        exact ⟨own3, k4, .inr (.inr ⟨rfl, n, 0, _, HG.out, HFIN.out, rfl, k5⟩)⟩
end Go.Proofs.YtldkeelgnfegeaaGreat

/- The disk: bytes.Clone. -/
namespace Go.Proofs.YtldkeelgnfegeaaGreat
open Go Go.RowKit Go.By

set_option maxRecDepth 100000 in
theorem clone_any (v : Value) (l : List Nat) (w : World) (hv : Bytes w v l) (hl : l.length ≤ 17592186044416) :
    Calls Tryz.prog 33 #[v] w fun e w' => ∃ v', e = .returned v' ∧ w'.ownsRow 0 5 1 v' l.length (cellsOf l) ∧ (∀ k, v'.ownBlock = some k → w.heap.size ≤ k) ∧ Below w.heap.size w w' := by
  obtain ⟨p, cap, rfl, _⟩ := hv.any
  have HV := Lib.hid hv
  clear hv
  have hn : ∀ (q : Option Addr) (n c : Nat) (w0 : World), (binOp .eql 23 (.slice q n c) (.slice none 0 0)).run Tryz.prog w0 = .ok (.bool q.isNone) w0 := fun q n c w0 => Lib.run_eql_slice_nil w0 _ _ q n c 0 0 bytesT.slice
  cases p with
  | none =>
    have hl0 : l = [] := by
      rcases HV.out.out with ⟨_, h⟩ | ⟨a, h, _⟩ | ⟨b, o, c, h, _⟩
      · exact h
      · cases h
      · cases h
    subst hl0
    go_enter Tryz.func33, Tryz.ntmps33
    go_wp2
    go_ret
    exact ⟨_, rfl, World.ownsRow_nil _ _ _ _, fun k hk => (by cases hk), Below.refl _ _⟩
  | some ad =>
    go_enter Tryz.func33, Tryz.ntmps33
    go_wp2_with (at_builtin; refine wpList_append_bytes rfl (.tmp 5) (.tmp 6) bytesT rfl w.heap.size (.slice (some ⟨w.heap.size, 0, none⟩) 0 0) 0 [] rfl (World.ownsRow_made w #[] 0 (Nat.le_refl _) (by decide) rfl) (.slice (some ad) l.length cap) l rfl (HV.out.below ((Below.refl _ _).alloc (Nat.le_refl _) _)) (by omega) (by simp) ?_; intro v1 w1 hown hgrow hnil)
    have hb : Below w.heap.size w w1 := ⟨hgrow.os, hgrow.tape, hgrow.output, by have := hgrow.size; simp at this; omega, fun k hk => (hgrow.block k (by simp; omega) (by simp [Value.ownBlock]; omega)).trans (Below.heap_alloc w _ k hk)⟩
    have hk : ∀ k, v1.ownBlock = some k → w.heap.size ≤ k := fun k hk => by
      rcases hown.2 with ⟨h, _⟩ | ⟨g, c, cur, h, hg, _⟩
      · rw [h] at hk; cases hk
      · rw [h] at hk; cases hk; exact hg
    have hown0 : w1.ownsRow 0 5 1 v1 l.length (cellsOf l) := by
      have h := hown
      rw [Nat.zero_add, List.nil_append] at h
      refine ⟨h.1, ?_⟩
      rcases h.2 with h' | ⟨g, c, cur, h1, _, h3⟩
      · exact .inl h'
      · exact .inr ⟨g, c, cur, h1, Nat.zero_le _, h3⟩
    have HOWN := Lib.hid hown0; have HB := Lib.hid hb; have HK := Lib.hid hk
    obtain ⟨p1, c1, rfl⟩ : ∃ p c, v1 = .slice p l.length c := by
      rcases hown.2 with ⟨h, h2⟩ | ⟨g, c, _, h, _⟩
      · exact ⟨none, 0, by rw [h]; congr 1; omega⟩
      · exact ⟨_, c, by rw [h]; congr 1; omega⟩
    clear hown hgrow hnil hb hk hown0
    go_wp2
    go_ret
    exact ⟨_, rfl, HOWN.out, HK.out, HB.out⟩
end Go.Proofs.YtldkeelgnfegeaaGreat

/- The disk: Write. -/
namespace Go.Proofs.YtldkeelgnfegeaaGreat
open Go Go.RowKit Go.By

theorem putL_length (l : List Nat) (off : Nat) (p : List Nat) : (putL l off p).length = max l.length (off + p.length) := by
  unfold putL
  split
  · rw [overL_length (by rw [fitL_length]; omega), fitL_length]; omega
  · rw [overL_length (by omega)]; omega
theorem redoWrite_length {off : Nat} {b : List Nat} {bit : Nat → Bool} : ∀ (f k i : Nat) (l : List Nat), k ≤ b.length → l.length ≤ (redoWrite off b bit f k i l).1.length ∧ (redoWrite off b bit f k i l).1.length ≤ max l.length (off + b.length)
  | 0, _, _, _, _ => ⟨Nat.le_refl _, Nat.le_max_left _ _⟩
  | f + 1, k, i, l, hk => by
    unfold redoWrite
    split
    · rename_i hlt
      have hp := pieceLen_le off b.length k
      have hp0 := pieceLen_pos (off := off) hlt
      have h := redoWrite_length (off := off) (b := b) (bit := bit) f (k + pieceLen off b.length k) (i + 1) (if bit i then putL l (off + k) ((b.drop k).take (pieceLen off b.length k)) else l) (by omega)
      have hl : ((b.drop k).take (pieceLen off b.length k)).length = pieceLen off b.length k := by simp; omega
      split at h
      · rename_i hb
        rw [putL_length, hl] at h
        rw [if_pos hb]
        exact ⟨by omega, by omega⟩
      · rename_i hb
        rw [if_neg hb]
        exact h
    · exact ⟨Nat.le_refl _, Nat.le_max_left _ _⟩

theorem Bytes.steps {own own' : Own} {w w' : World} {v : Value} {l : List Nat} (h : Bytes w v l) (hs : Steps own own' w w') (hk : ∀ k, v.ownBlock = some k → own k = none ∨ own k = some .ink) : Bytes w' v l where
  out := by
    rcases h.out with h1 | h1 | ⟨b, off, cap, rfl, h2, hc⟩
    · exact .inl h1
    · exact .inr (.inl h1)
    · refine .inr (.inr ⟨b, off, cap, rfl, h2, fun i hi => ?_⟩)
      have := hc i hi
      exact (World.cell?_of_block (hs.block b (block_lt_of_cell this) (hk b rfl))).trans this
  small := h.small
  short := h.short

theorem Bytes.stepsE {own own' : Own} {w w' : World} {v : Value} {l : List Nat} (h : Bytes w v l) (hs : Steps own own' w w') (hk : l ≠ [] → ∀ k, v.ownBlock = some k → own k = none ∨ own k = some .ink) : Bytes w' v l where
  out := by
    rcases h.out with h1 | h1 | ⟨b, off, cap, rfl, h2, hc⟩
    · exact .inl h1
    · exact .inr (.inl h1)
    · refine .inr (.inr ⟨b, off, cap, rfl, h2, fun i hi => ?_⟩)
      have := hc i hi
      exact (World.cell?_of_block (hs.block b (block_lt_of_cell this) (hk (by intro e; subst e; exact absurd hi (Nat.not_lt_zero _)) b rfl))).trans this
  small := h.small
  short := h.short

theorem Bytes.same {w w' : World} {v : Value} {l : List Nat} (h : Bytes w v l) (e : w'.heap = w.heap) : Bytes w' v l where
  out := by
    rcases h.out with h1 | h1 | ⟨b, off, cap, rfl, h2, hc⟩
    · exact .inl h1
    · exact .inr (.inl h1)
    · exact .inr (.inr ⟨b, off, cap, rfl, h2, fun i hi => (World.cell?_of_block (by rw [e])).trans (hc i hi)⟩)
  small := h.small
  short := h.short

/-- A copy of some bytes becomes the disk's ink. -/
theorem inked {own : Own} {w w' : World} {a : Nat} {D : DiskA} {v : Value} {l : List Nat} (h : DiskIs w own a D) (hown : w'.ownsRow 0 5 1 v l.length (cellsOf l)) (hk : ∀ k, v.ownBlock = some k → w.heap.size ≤ k) (hb : Below w.heap.size w w') :
    ∃ own', DiskIs w' own' a D ∧ Steps own own' w w' ∧ ∀ k, v.ownBlock = some k → own' k = some .ink := by
  obtain ⟨o1, a1, a2, a3, a4⟩ := own_went h.here (v := .slice none 0 0) (v' := v) (r := .ink) (w' := w') (fun k hk => by cases hk) (by
    cases e : v.ownBlock with
    | none => exact .inl rfl
    | some q => exact .inr ⟨q, rfl, hk q e⟩) (fun k hk => by
    rcases hown.2 with ⟨e, _⟩ | ⟨g, c, cur, e, _, hg, _⟩
    · rw [e] at hk; cases hk
    · rw [e] at hk; cases hk; exact (Array.getElem?_eq_some_iff.1 hg).1)
  obtain ⟨ms, mk, mf, lv, h1, h2⟩ := h.out
  have hs : Stay own o1 (fun _ => True) w w' := ⟨a2, fun k r hk _ => hb.block k (h.here k r hk)⟩
  refine ⟨o1, ⟨⟨ms, mk, mf, lv, (hs.block a _ h.role trivial).trans h1, h2.stay (hs.weaken fun _ _ => trivial)⟩, a2 a _ h.role, fun k hk => ?_, fun k r hk => ?_⟩, ⟨hb.os, hb.tape, hb.output, hb.size, fun k hk _ => hb.block k hk, a1⟩, a3⟩
  · rcases a4 k _ hk with h' | ⟨_, _, h'⟩
    · exact h.only k h'
    · cases h'
  · rcases a4 k r hk with h' | ⟨_, h', _⟩
    · exact Nat.lt_of_lt_of_le (h.here k r h') hb.size
    · exact h'

def DiskA.write (D : DiskA) (n : Nat) (off : Int) (b : List Nat) (x : Int) (D2 : DiskA) : Prop :=
  (b = [] ∧ x = 0 ∧ D2 = D) ∨ (b ≠ [] ∧ D.hasRoom n (off + b.length) = false ∧ x = 4 ∧ D2 = D) ∨ (b ≠ [] ∧ D.hasRoom n (off + b.length) = true ∧ x = 0 ∧ D2 = D.alterFile n (.write off.toNat b))

theorem same_steps {own : Own} {w w0 : World} (e1 : w0.heap = w.heap) (e2 : w0.os = w.os) (e3 : w0.tape = w.tape) (e4 : w0.output = w.output) : Steps own own w w0 :=
  ⟨e2, e3, e4, by rw [e1]; exact Nat.le_refl _, fun k _ _ => by rw [e1], fun _ _ => rfl⟩
theorem DiskIs.same {own : Own} {w w0 : World} {a : Nat} {D : DiskA} (h : DiskIs w own a D) (e1 : w0.heap = w.heap) : DiskIs w0 own a D :=
  h.turn (fun k _ => by rw [e1]) (by rw [e1]; exact Nat.le_refl _) (fun ms mk mf lv q1 q2 => ⟨ms, mk, mf, lv, by rw [e1]; exact q1, q2⟩)

/-- Behind the copy, the rest of a write. -/
def WriteRest (own : Own) (a n fb : Nat) (D1 : DiskA) (off : Nat) (b : List Nat) (x : Int) (w w4 : World) (v : Value) : Prop :=
  w4.cell? ⟨a, 1, none⟩ = some (.int .i64 D1.used) ∧
  ∀ w0 : World, w0.heap = w4.heap → w0.os = w4.os → w0.tape = w4.tape → w0.output = w4.output → Calls Tryz.prog 50 #[.pointer (some ⟨fb, 0, none⟩), .func (.func 70) #[.agg #[.int .i64 off, v]] #[]] w0 fun e w' => e = .returned (.int .i64 x) ∧
    w'.cell? ⟨a, 1, none⟩ = some (.int .i64 D1.used) ∧ w'.frozen? ⟨a, 1, none⟩ = false ∧
    ∃ own', Steps own own' w (w'.setCell ⟨a, 1, none⟩ (.int .i64 (D1.used + x))) ∧ DiskIs (w'.setCell ⟨a, 1, none⟩ (.int .i64 (D1.used + x))) own' a (D1.alterFile n (.write off b))

theorem write_rest {own : Own} {a n fb : Nat} {D1 : DiskA} {off : Nat} {b : List Nat} {w w2 w3 w4 : World} {v : Value} (hd : DiskIs w2 own a D1) (hst : Steps own own w w2) (hfb : Mp.get D1.fm n = some fb) (hl : (D1.cont n).laid.length < 1000000) (hoff : off ≤ 16777216) (hb0 : 0 < b.length) (hbl : b.length ≤ 1048576) (hs : ∀ c ∈ b, c < 256)
    (e1 : w3.heap = w2.heap) (e2 : w3.os = w2.os) (e3 : w3.tape = w2.tape) (e4 : w3.output = w2.output)
    (hown : w4.ownsRow 0 5 1 v b.length (cellsOf b)) (hk : ∀ k, v.ownBlock = some k → w3.heap.size ≤ k) (hbel : Below w3.heap.size w3 w4) : WriteRest own a n fb D1 off b ((D1.cont n).more (.write off b)) w w4 v := by
  have hd3 := hd.same e1
  obtain ⟨o1, hd4, hs4, hink⟩ := inked hd3 hown hk hbel
  obtain ⟨ms, mk, mf, lv, h1, _⟩ := hd4.out
  refine ⟨cells_of h1 1, fun w0 q1 q2 q3 q4 => ?_⟩
  have hd0 := hd4.same q1
  have ho : OpV w0 o1 (.func (.func 70) #[.agg #[.int .i64 off, v]] #[]) (.write off b) :=
    ⟨v, rfl, Bytes.of_owns (ownsRow_of_heap hown fun k _ => by rw [q1]) hs (by unfold maxLen; omega), hink, hb0, hoff, hbl⟩
  refine (alterDisk_any o1 a n fb D1 _ (.write off b) w0 hd0 hfb ho hl).mono ?_
  rintro e w' ⟨k1, k2, k3, own', k4, k5⟩
  exact ⟨k1, k2, k3, own', (((hst.trans (same_steps e1 e2 e3 e4)).trans hs4).trans (same_steps q1 q2 q3 q4)).trans k4, k5⟩
end Go.Proofs.YtldkeelgnfegeaaGreat

/- The disk: Write. -/
namespace Go.Proofs.YtldkeelgnfegeaaGreat
open Go Go.RowKit Go.By

set_option maxRecDepth 100000 in
set_option maxHeartbeats 8000000 in
theorem write_any (own : Own) (a : Nat) (D : DiskA) (s : ByteArray) (off : Int) (bv : Value) (b : List Nat) (w : World) (h : DiskIs w own a D) (hk : D.Ok) (ho : D.ops < 4611686018427387904) (hl : D.left < 4611686018427387904) (hs : s.size ≤ maxLen) (hll : ∀ n, (D.cont n).laid.length < 1000000)
    (hr : 0 ≤ D.room ∧ D.room ≤ 9223372036854775807) (hu : 0 ≤ D.used ∧ D.used ≤ 4611686018427387904) (hlen : ∀ n, (D.cont n).seen.length ≤ 1099511627776) (hb : Bytes w bv b) (hbk : b ≠ [] → ∀ k, bv.ownBlock = some k → own k = none ∨ own k = some .ink) (hbl : b.length ≤ 1048576) :
    Calls Tryz.prog 55 #[.pointer (some ⟨a, 0, none⟩), .string s, .int .i64 off, bv] w (Filed own a (D.begin (mayNumber off && mayName s)).1 (D.begin (mayNumber off && mayName s)).2 s ((D.begin (mayNumber off && mayName s)).1.write · off b) w) := by
  have hfind := find_any own a D s (mayNumber off) w h hk ho hl hs
  have hsame := D.begin_same (mayNumber off && mayName s)
  have herr2 : (D.begin (mayNumber off && mayName s)).2 = 0 → mayNumber off = true := by
    unfold DiskA.begin
    split
    · intro h; cases h
    · intro h
      cases hm : mayNumber off
      · rw [hm] at h; simp at h
      · rfl
  obtain ⟨D1, hD1⟩ : ∃ D1, D1 = (D.begin (mayNumber off && mayName s)).1 := ⟨_, rfl⟩
  obtain ⟨err, herr⟩ : ∃ err, err = (D.begin (mayNumber off && mayName s)).2 := ⟨_, rfl⟩
  rw [← hD1] at hsame
  rw [← herr] at herr2
  rw [← hD1, ← herr] at hfind ⊢
  obtain ⟨_, _, _, _, hc, hro, hus, _⟩ := hsame
  rw [← hc] at hll hlen
  rw [← hro] at hr
  rw [← hus] at hu
  have HF := Lib.hid hfind; have HLL := Lib.hid hll; have HR := Lib.hid hr; have HU := Lib.hid hu; have HLEN := Lib.hid hlen; have HE2 := Lib.hid herr2
  clear hfind h hk ho hl hD1 herr hc hro hus hll hr hu hlen herr2
  obtain ⟨mn, hmn⟩ : ∃ mn, mn = mayNumber off := ⟨_, rfl⟩
  have hmay := fun w0 => mayNumber_any off w0
  rw [← hmn] at HF HE2 hmay
  have HMN := Lib.hid hmn; have HMAY := Lib.hid hmay
  clear hmn hmay
  obtain ⟨p, cap, rfl, _⟩ := hb.any
  have HB := Lib.hid hb; have HBK := Lib.hid hbk; have HBL := Lib.hid hbl
  clear hb hbk
  go_enter Tryz.func55, Tryz.ntmps55
  go_wp2_with (go_at_call 48; refine (HMAY.out _).mono ?_; rintro e w1 ⟨rfl, rfl⟩)
  refine HF.out.mono ?_
  rintro e w1 ⟨hd, hst, ⟨he, rfl⟩ | ⟨rfl, hg, rfl⟩ | ⟨rfl, n, fb, hg, hfb, rfl⟩⟩
  · have HD := Lib.hid hd; have HST := Lib.hid hst; clear hd hst
    go_wp2
    go_ret
    exact ⟨own, HST.out, .inl ⟨he, rfl, HD.out⟩⟩
  · have HD := Lib.hid hd; have HST := Lib.hid hst; have HG := Lib.hid hg; clear hd hst hg
    go_wp2
    go_ret
    exact ⟨own, HST.out, .inr (.inl ⟨rfl, HG.out, rfl, HD.out⟩)⟩
  · have hsz : 0 ≤ off ∧ off ≤ 16777216 := by
      have := HMN.out.symm.trans (HE2.out rfl)
      unfold mayNumber at this
      simpa using this
    have hb1 := Bytes.stepsE HB.out hst HBK.out
    have HB1 := Lib.hid hb1
    clear hb1
    by_cases hb0 : b.length = 0
    · have e : b = [] := List.eq_nil_of_length_eq_zero hb0
      have HD := Lib.hid hd; have HST := Lib.hid hst; have HG := Lib.hid hg; have HE := Lib.hid e
      clear hd hst hg e hfb
      have hd2 : decide ((b.length : Int) = 0) = true := by simp [hb0]
      go_wp2
      go_ret
      exact ⟨own, HST.out, .inr (.inr ⟨rfl, n, 0, D1, HG.out, .inl ⟨HE.out, rfl, rfl⟩, rfl, HD.out⟩)⟩
    · obtain ⟨m, rfl⟩ : ∃ m : Nat, off = m := ⟨off.toNat, by omega⟩
      have hne : b ≠ [] := fun e => hb0 (by rw [e]; rfl)
      have hb0i : ¬ (b.length : Int) = 0 := by omega
      have hd2 : decide ((b.length : Int) = 0) = false := by simp [hb0]
      have hbl1 : b.length ≤ 1048576 := HBL.out
      have hroom := hasRoom_any own a n fb D1 ((m : Int) + b.length) w1 hd hfb HR.out HU.out (by omega)
      have hw0 : IntKind.i64.wrap ((m : Int) + b.length) = (m : Int) + b.length := IntWalk.i64_in _ (by omega)
      have HD := Lib.hid hd; have HST := Lib.hid hst; have HG := Lib.hid hg; have HFB := Lib.hid hfb; have HROOM := Lib.hid hroom; have HNE := Lib.hid hne; have HSZ := Lib.hid hsz
      clear hd hst hg hfb hroom hne
      go_wp2_with fail
      refine HROOM.out.mono ?_
      rintro e w2 ⟨rfl, _, hd2', hst2⟩
      cases hrm : D1.hasRoom n ((m : Int) + b.length)
      · have HRM := Lib.hid hrm; have HD2 := Lib.hid hd2'; have ST2 := Lib.hid (HST.out.trans hst2)
        clear hrm hd2' hst2
        go_wp2
        go_ret
        exact ⟨own, ST2.out, .inr (.inr ⟨rfl, n, 4, _, HG.out, .inr (.inl ⟨HNE.out, HRM.out, rfl, rfl⟩), rfl, HD2.out⟩)⟩
      · obtain ⟨ms, mk, mf, lv, h1, _⟩ := hd2'.out
        have g1 : w2.cell? ⟨a, 1, none⟩ = some (.int .i64 D1.used) := cells_of h1 1
        have hb2 := Bytes.stepsE HB1.out hst2 HBK.out
        have hrest : ∀ (w3 w4 : World) (v : Value), w3.heap = w2.heap → w3.os = w2.os → w3.tape = w2.tape → w3.output = w2.output → w4.ownsRow 0 5 1 v b.length (cellsOf b) → (∀ k, v.ownBlock = some k → w3.heap.size ≤ k) → Below w3.heap.size w3 w4 →
            WriteRest own a n fb D1 m b ((D1.cont n).more (.write m b)) w w4 v := fun w3 w4 v e1 e2 e3 e4 q1 q2 q3 => write_rest hd2' (HST.out.trans hst2) HFB.out (HLL.out n) (by omega) (by omega) hbl1 hb2.small e1 e2 e3 e4 q1 q2 q3
        have hclone : ∀ w3 : World, w3.heap = w2.heap → Calls Tryz.prog 33 #[.slice p b.length cap] w3 fun e w' => ∃ p' c', e = .returned (.slice p' b.length c') ∧ w'.ownsRow 0 5 1 (.slice p' b.length c') b.length (cellsOf b) ∧ (∀ k, (Value.slice p' b.length c').ownBlock = some k → w3.heap.size ≤ k) ∧ Below w3.heap.size w3 w' := fun w3 e1 => (clone_any _ b w3 (Bytes.same hb2 e1) (by omega)).mono (by
          rintro e w' ⟨v', rfl, q1, q2, q3⟩
          rcases q1.2 with ⟨h, h2⟩ | ⟨g, c, cur, h, h3⟩
          · exact ⟨none, 0, by rw [h, h2], by rw [h, h2] at q1; rw [h2]; exact q1, fun k hk => (by cases hk), q3⟩
          · subst h; exact ⟨_, _, rfl, q1, q2, q3⟩)
        have hx : 0 ≤ (D1.cont n).more (.write m b) ∧ (D1.cont n).more (.write m b) ≤ 1099511627776 := by
          have h1 := HLEN.out n
          have h2 := redoWrite_length (off := m) (b := b) (bit := allBits) b.length 0 0 (D1.cont n).seen (Nat.zero_le _)
          have e : ((D1.cont n).alter (.write m b)).seen = (redoWrite m b allBits b.length 0 0 (D1.cont n).seen).1 := rfl
          unfold FileA.more
          rw [e]
          omega
        have hfin : D1.write n m b 0 (D1.alterFile n (.write m b)) := .inr (.inr ⟨HNE.out, hrm, rfl, by simp⟩)
        have HREST := Lib.hid hrest; have HCL := Lib.hid hclone; have HFIN := Lib.hid hfin
        obtain ⟨hx1, hx2⟩ := hx
        obtain ⟨hu1, hu2⟩ := HU.out
        generalize (D1.cont n).more (.write m b) = x at *
        have hw : IntKind.i64.wrap (D1.used + x) = D1.used + x := IntWalk.i64_in _ (by omega)
        clear hrm hd2' hst2 hrest hclone hfin h1 hx1 hx2 hu1 hu2 hb2 hw0
        go_wp2
        go_region_with (first
          | (go_at_call 33; refine (HCL.out _ (by rfl)).mono ?_; rintro e w4 ⟨p4, c4, rfl, k1, k2, k3⟩; obtain ⟨k5, k6⟩ := HREST.out _ _ _ (by rfl) (by rfl) (by rfl) (by rfl) k1 k2 k3; have HK6 := Lib.hid k6; clear k6 k1 k2 k3)
          | (go_at_call 50; refine (HK6.out _ (by rfl) (by rfl) (by rfl) (by rfl)).mono ?_; rintro e w5 ⟨rfl, k7, k8, k9⟩; have K9 := Lib.hid k9; clear k9))
        all_goals
          go_wp2
          go_ret
          obtain ⟨own3, k4, k5⟩ := K9.out
          exact ⟨own3, k4, .inr (.inr ⟨rfl, n, 0, _, HG.out, HFIN.out, rfl, k5⟩)⟩
end Go.Proofs.YtldkeelgnfegeaaGreat

/- The disk: Read. -/
namespace Go.Proofs.YtldkeelgnfegeaaGreat
open Go Go.RowKit Go.By

theorem diskT_size (w : World) : (sizeOf (Tryz.prog.elem 23)).run Tryz.prog w = .ok 1 w := by kernel_rfl
/-- b[i:i+n]. -/
theorem cut_run {w : World} {p : Option Addr} {cap : Nat} {l : List Nat} (h : Bytes w (.slice p l.length cap) l) (i n : Nat) (hn : i + n ≤ l.length) :
    ∃ q c, (∀ w0 : World, (Instr.slice 23 (.slice p l.length cap) (some (.int .i64 (i : Int))) (some (.int .i64 ((i : Int) + (n : Int)))) none).run Tryz.prog w0 = .ok (.slice q n c) w0) ∧ Bytes w (.slice q n c) ((l.drop i).take n) := by
  have hcap := h.room.2
  have hr := fun w0 => run_slice_lh (P := Tryz.prog) w0 23 p l.length cap (by kernel_rfl) .i64 .i64 (i : Int) ((i : Int) + (n : Int)) (by omega) (by omega) (by omega)
  have e1 : ((i : Int) + (n : Int)).toNat = i + n := by omega
  have e2 : (i : Int).toNat = i := by omega
  simp only [diskT_size, Result.andThen, e1, e2, sliced, Nat.add_sub_cancel_left, Nat.mul_one] at hr
  refine ⟨_, _, hr, ?_⟩
  have hpl : ((l.drop i).take n).length = n := by simp; omega
  have hps : ∀ c ∈ (l.drop i).take n, c < 256 := fun c hc => h.small c (List.mem_of_mem_drop (List.mem_of_mem_take hc))
  rcases h.out with ⟨h1, rfl⟩ | ⟨a, h1, rfl⟩ | ⟨b, off, cap', h1, h2, hc⟩
  · simp only [Value.slice.injEq] at h1
    obtain ⟨rfl, _, rfl⟩ := h1
    simp only [List.length_nil] at hn
    obtain rfl : i = 0 := by omega
    obtain rfl : n = 0 := by omega
    simpa using Bytes.nil w
  · simp only [Value.slice.injEq] at h1
    obtain ⟨rfl, _, rfl⟩ := h1
    simp only [List.length_nil] at hn
    obtain rfl : i = 0 := by omega
    obtain rfl : n = 0 := by omega
    simp only [↓reduceIte, Nat.sub_zero, List.drop_nil, List.take_nil]
    exact ⟨.inr (.inl ⟨a, rfl, rfl⟩), by simp, by simp⟩
  · simp only [Value.slice.injEq, true_and] at h1
    obtain ⟨rfl, rfl⟩ := h1
    by_cases he : cap = i
    · obtain rfl : n = 0 := by omega
      rw [if_pos he]
      subst he
      simp only [Nat.sub_self, List.take_zero]
      exact ⟨.inr (.inl ⟨_, rfl, rfl⟩), by simp, by simp⟩
    · rw [if_neg he]
      refine ⟨.inr (.inr ⟨b, off + i, cap - i, by simp [Addr.add_lit, hpl], by rw [hpl]; omega, fun j hj => ?_⟩), hps, by rw [hpl]; have := h.short; omega⟩
      rw [hpl] at hj
      rw [Nat.add_assoc, hc (i + j) (by omega), atB_take hj]
      simp only [atB, List.getD_eq_getElem?_getD, List.getElem?_drop]

def ReadOut (own : Own) (a : Nat) (D1 : DiskA) (err : Int) (s : ByteArray) (off n : Int) (w : World) (e : Ending) (w' : World) : Prop :=
  Steps own own w w' ∧ DiskIs w' own a D1 ∧
   ((err ≠ 0 ∧ e = .returned (.tuple #[.slice none 0 0, .int .i64 err])) ∨ (err = 0 ∧ Mp.get D1.seen s = none ∧ e = .returned (.tuple #[.slice none 0 0, .int .i64 3])) ∨
    (err = 0 ∧ 0 ≤ off ∧ 0 ≤ n ∧ ∃ k, Mp.get D1.seen s = some k ∧
      ((((D1.cont k).seen.length : Int) < off + n ∧ e = .returned (.tuple #[.slice none 0 0, .int .i64 2])) ∨
       (off + n ≤ ((D1.cont k).seen.length : Int) ∧ ∃ v, e = .returned (.tuple #[v, .int .i64 0]) ∧ w'.ownsRow w.heap.size 5 1 v n.toNat (cellsOf (((D1.cont k).seen.drop off.toNat).take n.toNat))))))

set_option maxRecDepth 100000 in
set_option maxHeartbeats 4000000 in
theorem read_any (own : Own) (a : Nat) (D : DiskA) (s : ByteArray) (off n : Int) (w : World) (h : DiskIs w own a D) (hk : D.Ok) (ho : D.ops < 4611686018427387904) (hl : D.left < 4611686018427387904) (hs : s.size ≤ maxLen) (hlen : ∀ n, (D.cont n).seen.length ≤ 1099511627776) :
    Calls Tryz.prog 41 #[.pointer (some ⟨a, 0, none⟩), .string s, .int .i64 off, .int .i64 n] w (ReadOut own a (D.begin ((mayNumber off && mayNumber n) && mayName s)).1 (D.begin ((mayNumber off && mayNumber n) && mayName s)).2 s off n w) := by
  have hfind := find_any own a D s (mayNumber off && mayNumber n) w h hk ho hl hs
  have hsame := D.begin_same ((mayNumber off && mayNumber n) && mayName s)
  have herr2 : (D.begin ((mayNumber off && mayNumber n) && mayName s)).2 = 0 → mayNumber off = true ∧ mayNumber n = true := by
    unfold DiskA.begin
    split
    · intro h; cases h
    · intro h
      cases hm : mayNumber off
      · rw [hm] at h; simp at h
      · cases hm2 : mayNumber n
        · rw [hm, hm2] at h; simp at h
        · exact ⟨rfl, rfl⟩
  obtain ⟨D1, hD1⟩ : ∃ D1, D1 = (D.begin ((mayNumber off && mayNumber n) && mayName s)).1 := ⟨_, rfl⟩
  obtain ⟨err, herr⟩ : ∃ err, err = (D.begin ((mayNumber off && mayNumber n) && mayName s)).2 := ⟨_, rfl⟩
  rw [← hD1] at hsame
  rw [← herr] at herr2
  rw [← hD1, ← herr] at hfind ⊢
  obtain ⟨_, _, _, _, hc, _⟩ := hsame
  rw [← hc] at hlen
  have HF := Lib.hid hfind; have HLEN := Lib.hid hlen; have HE2 := Lib.hid herr2
  clear hfind h hk ho hl hD1 herr hc hlen herr2
  have hmo := fun w0 => mayNumber_any off w0
  have hmn := fun w0 => mayNumber_any n w0
  have hb : (mayNumber off = true → 0 ≤ off ∧ off ≤ 16777216) ∧ (mayNumber n = true → 0 ≤ n ∧ n ≤ 16777216) := by
    unfold mayNumber; simp
  have HNB := Lib.hid hb
  clear hb
  obtain ⟨mo, hmo2⟩ : ∃ mn, mn = mayNumber off := ⟨_, rfl⟩
  obtain ⟨mn, hmn2⟩ : ∃ mn, mn = mayNumber n := ⟨_, rfl⟩
  rw [← hmo2] at HF HE2 hmo HNB
  rw [← hmn2] at HF HE2 hmn HNB
  have HMO := Lib.hid hmo; have HMN := Lib.hid hmn
  clear hmo hmn hmo2 hmn2
  cases mo
  case false =>
    go_enter Tryz.func41, Tryz.ntmps41
    go_wp2_with (go_at_call 48; first | (refine (HMO.out _).mono ?_; rintro e w1 ⟨rfl, rfl⟩) | (refine (HMN.out _).mono ?_; rintro e w1 ⟨rfl, rfl⟩))
    simp only [Bool.false_and] at HF
    refine HF.out.mono ?_
    rintro e w1 ⟨hd, hst, ⟨he, rfl⟩ | ⟨rfl, hg, rfl⟩ | ⟨rfl, k, fb, hg, hfb, rfl⟩⟩
    · have HD := Lib.hid hd; have HST := Lib.hid hst; clear hd hst
      go_wp2
      go_ret2
      exact ⟨HST.out, HD.out, .inl ⟨he, rfl⟩⟩
    · exact absurd (HE2.out rfl).1 (by decide)
    · exact absurd (HE2.out rfl).1 (by decide)
  case true =>
    go_enter Tryz.func41, Tryz.ntmps41
    go_wp2_with (go_at_call 48; first | (refine (HMO.out _).mono ?_; rintro e w1 ⟨rfl, rfl⟩) | (refine (HMN.out _).mono ?_; rintro e w1 ⟨rfl, rfl⟩))
    simp only [Bool.true_and] at HF
    refine HF.out.mono ?_
    rintro e w1 ⟨hd, hst, ⟨he, rfl⟩ | ⟨rfl, hg, rfl⟩ | ⟨rfl, k, fb, hg, hfb, rfl⟩⟩
    · have HD := Lib.hid hd; have HST := Lib.hid hst; clear hd hst
      go_wp2
      go_ret2
      exact ⟨HST.out, HD.out, .inl ⟨he, rfl⟩⟩
    · have HD := Lib.hid hd; have HST := Lib.hid hst; have HG := Lib.hid hg; clear hd hst hg
      go_wp2
      go_ret2
      exact ⟨HST.out, HD.out, .inr (.inl ⟨rfl, HG.out, rfl⟩)⟩
    · obtain ⟨o1, o2⟩ := HNB.out.1 (by trivial)
      obtain ⟨n1, n2⟩ := HNB.out.2 (by first | exact (HE2.out rfl).2 | simpa using (HE2.out rfl).2)
      obtain ⟨ms, mk, mf, lv, h1, h2⟩ := hd.out
      obtain ⟨⟨sv, kv, flv, cs, g1, g2, _⟩, _⟩ := h2.each k fb hfb
      have c0 : w1.cell? ⟨fb, 0, none⟩ = some sv := cells_of g1 0
      have hL := HLEN.out k
      have hby : Bytes w1 sv (D1.cont k).seen := g2.bytes (by unfold maxLen; omega)
      generalize hS : (D1.cont k).seen = S at *
      obtain ⟨p, cap, rfl, _⟩ := hby.any
      have wr : IntKind.i64.wrap (off + n) = off + n := IntWalk.i64_in _ (by omega)
      by_cases hlt : (S.length : Int) < off + n
      · have HD := Lib.hid hd; have HST := Lib.hid hst; have HG := Lib.hid hg
        clear hd hst hg h1 h2 g1 g2 hfb
        go_wp2
        go_ret2
        exact ⟨HST.out, HD.out, .inr (.inr ⟨rfl, o1, n1, k, HG.out, .inl ⟨by rw [hS]; exact hlt, rfl⟩⟩)⟩
      · obtain ⟨i, rfl⟩ : ∃ i : Nat, off = i := ⟨off.toNat, by omega⟩
        obtain ⟨m, rfl⟩ : ∃ m : Nat, n = m := ⟨n.toNat, by omega⟩
        obtain ⟨q, c, hrun, hby2⟩ := cut_run hby i m (by omega)
        have hpl : ((S.drop i).take m).length = m := by simp; omega
        have HCL := Lib.hid (clone_any _ _ w1 hby2 (by rw [hpl]; omega))
        have HD := Lib.hid hd; have HST := Lib.hid hst; have HG := Lib.hid hg
        clear hd hst hg h1 h2 g1 g2 hfb hby hby2
        go_wp2_with fail
        refine HCL.out.mono ?_
        rintro e w2 ⟨v, rfl, hown, hkk, hb2⟩
        have hown2 : w2.ownsRow w.heap.size 5 1 v m (cellsOf ((S.drop i).take m)) := by
          rw [hpl] at hown
          refine ⟨hown.1, ?_⟩
          rcases hown.2 with h | ⟨g, c, cur, h1, _, h3⟩
          · exact .inl h
          · exact .inr ⟨g, c, cur, h1, Nat.le_trans HST.out.size (hkk g (by rw [h1]; rfl)), h3⟩
        have hd2 := HD.out.beside (o1 := fun _ => none) (o2 := fun _ => none) (Steps.of_below hb2) (fun _ _ _ => .inl rfl)
        have HO := Lib.hid hown2; have HD2 := Lib.hid hd2; have HST2 := Lib.hid (HST.out.trans (Steps.of_below hb2))
        clear hown hkk hb2 hown2 hd2 hrun
        go_wp2
        go_ret2
        exact ⟨HST2.out, HD2.out, .inr (.inr ⟨rfl, o1, n1, k, HG.out, .inr ⟨by rw [hS]; omega, v, rfl, by rw [hS]; exact HO.out⟩⟩)⟩
end Go.Proofs.YtldkeelgnfegeaaGreat

/- The disk: maps.Clone; a name is struck out. -/
namespace Go.Proofs.YtldkeelgnfegeaaGreat
open Go Go.RowKit Go.By

set_option maxRecDepth 100000 in
theorem redoRemove_any (s : ByteArray) (b : Nat) (m : List (ByteArray × Nat)) (w : World) (hm : Mp.Is w b strV natV m) :
    Calls Tryz.prog 53 #[.agg #[.string s], .map (some b)] w fun e w' => e = .returned (.tuple #[]) ∧ Mp.Is w' b strV natV (Mp.del m s) ∧ w.grownBy w' (some b) := by
  have hlt := hm.lt
  have hm1 : Mp.Is (w.alloc (.cells #[.string s] 108)) b strV natV m := hm.of_heap (Below.heap_alloc _ _ _ hlt)
  obtain ⟨es, clock, hh⟩ : ∃ es clock, (w.alloc (.cells #[.string s] 108)).heap[b]? = some (.map es clock) := let ⟨⟨es, clock, h, _⟩, _⟩ := hm1; ⟨es, clock, h⟩
  obtain ⟨o, hrun0, hm2⟩ := hm1.delete strK namesT s 0
  have hrun : ∀ ty, (Builtin.delete_ #[51, 9] ty #[.map (some b), .string s]).run Tryz.prog (w.alloc (.cells #[.string s] 108)) = .ok (.tuple #[]) { (w.alloc (.cells #[.string s] 108)) with heap := (w.alloc (.cells #[.string s] 108)).heap.setIfInBounds b o } := fun _ => hrun0
  have hg := set_grown (o' := o) hh
  generalize ({ (w.alloc (.cells #[.string s] 108)) with heap := (w.alloc (.cells #[.string s] 108)).heap.setIfInBounds b o } : World) = w2 at *
  have fin : Mp.Is w2 b strV natV (Mp.del m s) ∧ w.grownBy w2 (some b) := ⟨hm2, ⟨hg.os, hg.tape, hg.output, Nat.le_trans (by simp) hg.size, fun k hk hn => (hg.block k (by simp; omega) hn).trans (Below.heap_alloc _ _ _ hk)⟩⟩
  have FIN := Lib.hid fin
  clear hm hm1 hm2 hg fin hlt hrun0 hh
  go_enter Tryz.func53, Tryz.ntmps53
  go_wp2
  go_returns
  exact ⟨rfl, FIN.out⟩

theorem assertNames (T : TypeId) (v : Value) (w : World) : (Instr.typeAssert (.iface 51 v) T 51 false).run Tryz.prog w = .ok v w := by kernel_rfl

/-- What maps.Clone makes of a map: one with the same entries, in a block of its own. -/
theorem cloneNil_any (w : World) : Calls Tryz.prog 54 #[.map none] w fun e w' => e = .returned (.map none) ∧ w = w' := by
  have hne := fun (w : World) (r : Option Nat) => Go.run_eql_map_nil (P := Tryz.prog) w 51 9 3 r namesT
  go_enter Tryz.func54, Tryz.ntmps54
  go_wp2
  go_ret
  exact ⟨rfl, rfl⟩

set_option maxRecDepth 100000 in
theorem cloneMap_any (b : Nat) (es : Array MapEntry) (clock : Nat) (w : World) (hb : w.heap[b]? = some (.map es clock)) :
    Calls Tryz.prog 54 #[.map (some b)] w fun e w' => e = .returned (.map (some w.heap.size)) ∧ w' = w.alloc (.map es clock) := by
  have hne := fun (w : World) (r : Option Nat) => Go.run_eql_map_nil (P := Tryz.prog) w 51 9 3 r namesT
  go_enter Tryz.func54, Tryz.ntmps54
  have hcl : (Extern.MapsClone.clone #[.iface 51 (.map (some b))]).run Tryz.prog w = .ok (.iface 51 (.map (some w.heap.size))) (w.alloc (.map es clock)) := by
    have e : Extern.MapsClone.clone #[.iface 51 (.map (some b))] = (do
        let o ← getObj b
        match o with
        | .map entries clock => do let r ← newObj (.map entries clock); pure (.iface 51 (.map (some r)))
        | _ => stuck "maps.clone: a map expected" : Sem Value) := rfl
    rw [e]; simp [Go.MapKept.run_getObj_map hb]
  have hxt := run_callFunc_extern Tryz.func69 (by kernel_rfl) (by kernel_rfl) (by kernel_rfl) (show Extern.find Tryz.f69 = some Extern.MapsClone.clone by kernel_rfl) #[.iface 51 (.map (some b))] w
  rw [hcl] at hxt
  have hta := assertNames
  clear hcl
  go_wp2
  go_ret
  exact ⟨rfl, rfl⟩
end Go.Proofs.YtldkeelgnfegeaaGreat

/- The disk: Remove. -/
namespace Go.Proofs.YtldkeelgnfegeaaGreat
open Go Go.RowKit Go.By

theorem row_slice {w : World} {B : Nat} {e : TypeId} {v : Value} {n : Nat} {xs : List Value} (h : w.ownsRow B e 1 v n xs) : ∃ p c, v = .slice p n c := by
  rcases h.2 with ⟨h, h2⟩ | ⟨g, c, _, h, _⟩
  · exact ⟨none, 0, by rw [h, h2]⟩
  · exact ⟨_, c, h⟩

set_option maxRecDepth 100000 in
theorem alterRemove_any (own : Own) (a bs bf : Nat) (D : DiskA) (s : ByteArray) (w : World) (h : Tabled w own a bs bf D) (hl : D.laid.length < 1000000) :
    Calls Tryz.prog 45 #[.pointer (some ⟨a, 0, none⟩), nameV (.remove s)] w fun e w' => e = .returned (.tuple #[]) ∧ ∃ own', Tabled w' own' a bs bf { D with seen := Mp.del D.seen s, laid := D.laid ++ [.remove s] } ∧ Steps own own' w w' := by
  obtain ⟨hd, mk, lv, h1, h2, h3⟩ := h
  have g4 : w.cell? ⟨a, 4, none⟩ = some (.map (some bs)) := cells_of h1 4
  have hrs : own bs = some .seen ∧ Mp.Is w bs strV natV D.seen := by
    rcases h2.seen with ⟨h, _⟩ | ⟨b, h, hb, hm⟩
    · cases h
    · cases h; exact ⟨hb, hm⟩
  have hlt : a < w.heap.size := hd.here a _ hd.role
  have hne : bs ≠ a := by
    rintro rfl
    rw [hd.role] at hrs; cases hrs.1
  have HD := Lib.hid hd; have H1 := Lib.hid h1; have H2 := Lib.hid h2; have HR := Lib.hid hrs
  clear hd h1 h2 hrs
  obtain ⟨i0, hi, hz0, hz1, hz2⟩ := info_parts nameOpInfo
  have HI := Lib.hid hi; have Z0 := Lib.hid hz0; have Z1 := Lib.hid hz1; have Z2 := Lib.hid hz2
  clear hi hz0 hz1 hz2
  unfold nameV
  go_enter Tryz.func45, Tryz.ntmps45
  go_wp2_with fail
  refine (redoRemove_any s bs D.seen w HR.out.2).mono ?_
  rintro e w1 ⟨rfl, hm1, hg1⟩
  have q6 : w1.cell? ⟨a, 6, none⟩ = some lv := by
    rw [World.cell?_of_block (hg1.block a hlt (by simpa using fun h => hne h.symm))]; exact cells_of H1.out 6
  have HM1 := Lib.hid hm1; have HG1 := Lib.hid hg1
  have hlb : ∀ k, lv.ownBlock = some k → k < w.heap.size ∧ k ≠ bs ∧ k ≠ a := fun k hk => ⟨HD.out.here k _ (H2.out.laidR k hk), (by
    rintro rfl; have := H2.out.laidR k hk; rw [HR.out.1] at this; cases this), (by
    rintro rfl; have := H2.out.laidR k hk; rw [HD.out.role] at this; cases this)⟩
  have ho1 := ownsRow_of_heap H2.out.laid (w' := w1) fun k hk => hg1.block k (hlb k hk).1 (by simpa using (hlb k hk).2.1)
  have HO1 := Lib.hid ho1
  have HLB := Lib.hid hlb
  clear hm1 hg1 g4 ho1 hlb
  go_wp2_with (at_builtin; refine wpList_append_own_at _ rfl (.tmp 14) (.tmp 16) 52 rfl 0 109 i0 .nilFunc 1 8 nameOps HI.out Z0.out Z1.out Z2.out rfl (by decide) lv D.laid.length (D.laid.map nameV) rfl (HO1.out.alloc _) ⟨w1.heap.size, 0, none⟩ 1 1 [nameV (.remove s)] rfl rfl ?c1 ?c2 ?c3 ?c4 ?c5 ?c6)
  case c1 =>
    intro j u hu
    match j with
    | 0 => simp at hu; subst hu; exact World.cell?_alloc_new w1 _ _ 0
    | j + 1 => simp at hu
  case c2 => intro u hu; simp at hu; subst hu; rfl
  case c3 => unfold maxLen; omega
  case c4 => omega
  case c5 => omega
  intro v2 w2 hown hgrow _ hat
  obtain ⟨p2, c2, rfl⟩ : ∃ p c, v2 = .slice p (D.laid.length + 1) c := by
    rcases hown.2 with ⟨_, h⟩ | ⟨g, c, _, h, _⟩
    · omega
    · exact ⟨_, c, h⟩
  have z1 := HG1.out.size
  have q6' : w2.cell? ⟨a, 6, none⟩ = some lv := by
    rw [World.cell?_of_block (hgrow.block a (by simp; omega) (fun e => (HLB.out a e.symm).2.2 rfl)), World.cell?_alloc_lt _ _ _ (by simp; omega)]; exact q6
  have f6' : w2.frozen? ⟨a, 6, none⟩ = false := by
    rw [World.frozen?_of_block (hgrow.block a (by simp; omega) (fun e => (HLB.out a e.symm).2.2 rfl)), World.frozen?_alloc_old _ _ _ (by simp; omega), World.frozen?_of_block (HG1.out.block a hlt (by simpa using fun h => hne h.symm))]
    exact free_of H1.out 6
  have fin := laid_done HD.out H1.out H2.out h3 HR.out.1 HM1.out HG1.out hown hgrow (by simpa using hat)
  have FIN := Lib.hid fin
  clear fin hown hgrow hat q6
  go_wp2
  go_returns
  exact ⟨rfl, FIN.out⟩

/-- The file's bytes are not seen any more. -/
theorem DiskIs.emptied {own : Own} {a n fb : Nat} {D : DiskA} {w : World} (h : DiskIs w own a D) (hfb : Mp.get D.fm n = some fb) (u : Int) {W : World} (hh : W.heap = ((w.setCell ⟨a, 1, none⟩ (.int .i64 u)).setCell ⟨fb, 0, none⟩ (.slice none 0 0)).heap) (ho : W.os = w.os) (ht : W.tape = w.tape) (hp : W.output = w.output) :
    ∃ D', DiskIs W own a D' ∧ D'.seen = D.seen ∧ D'.laid = D.laid ∧ D'.kept = D.kept ∧ D'.fm = D.fm ∧ Steps own own w W := by
  obtain ⟨hd1, st1⟩ := h.set (D' := { D with used := u }) 1 (.int .i64 u) (fun ms mk mf lv _ hpp => ⟨ms, mk, mf, lv, rfl, parts_numbers hpp rfl rfl rfl rfl rfl⟩)
  generalize hw1 : w.setCell ⟨a, 1, none⟩ (.int .i64 u) = w1 at *
  obtain ⟨ms, mk, mf, lv, h1, h2⟩ := hd1.out
  obtain ⟨⟨sv, kv, lv', cs, f1, f2, f3, f4, f5, f6⟩, hr, hbf⟩ := h2.each n fb hfb
  have s0 := set_heap f1 0 (.slice none 0 0)
  have hfl : fb < w1.heap.size := hd1.here fb _ hr
  have hz : (w1.setCell ⟨fb, 0, none⟩ (.slice none 0 0)).heap.size = w1.heap.size := by simp
  have stay : Stay own own (fun r => r ≠ .file n) w1 (w1.setCell ⟨fb, 0, none⟩ (.slice none 0 0)) := ⟨fun _ _ h => h, fun k r hkr hne => s0.2 k (by rintro rfl; rw [hr] at hkr; cases hkr; exact hne rfl)⟩
  have hfile : FileIs (w1.setCell ⟨fb, 0, none⟩ (.slice none 0 0)) own n fb { D.cont n with seen := [] } :=
    ⟨⟨.slice none 0 0, kv, lv', cs, s0.1, RowV.nil _ _ _, f3.stay stay (by simp), ownsRow_of_heap f4 fun k hkr => stay.block k _ (f5 k hkr) (by simp), f5, f6.stay stay (by simp)⟩, hr,
      fun l hl h0 => (third_cell s0.1 (x := lv') (by simp) hl).trans (hbf lv' (by rw [cell_of_row w1 fb 2 _ _ _ f1]; rfl) h0)⟩
  have hst : FileStep n none own own w1 (w1.setCell ⟨fb, 0, none⟩ (.slice none 0 0)) := by
    refine ⟨⟨rfl, rfl, rfl, by rw [hz]; exact Nat.le_refl _, fun k hkl hn => ?_⟩, fun _ _ => rfl, fun _ _ h => h, fun k r hkr => .inl hkr⟩
    exact s0.2 k (by rintro rfl; exact hn (.inl ⟨_, hr, .inl rfl⟩))
  have hd2 := hd1.filed (F := { D.cont n with seen := [] }) hfb hfile hst (by simp)
  have st2 := st1.trans hst.steps
  have hW : Below (w1.setCell ⟨fb, 0, none⟩ (.slice none 0 0)).heap.size (w1.setCell ⟨fb, 0, none⟩ (.slice none 0 0)) W := ⟨ho.trans st2.os.symm, ht.trans st2.tape.symm, hp.trans st2.output.symm, by rw [hh]; exact Nat.le_refl _, fun k _ => by rw [hh]⟩
  exact ⟨_, hd2.beside (o1 := fun _ => none) (o2 := fun _ => none) (Steps.of_below hW) (fun _ _ _ => .inl rfl), rfl, rfl, rfl, rfl, st2.trans (Steps.of_below hW)⟩

set_option maxRecDepth 100000 in
theorem empty_any (own : Own) (a n fb : Nat) (D : DiskA) (s : ByteArray) (w : World) (h : DiskIs w own a D) (hg : Mp.get D.seen s = some n) (hfb : Mp.get D.fm n = some fb) (hu : -4611686018427387904 ≤ D.used ∧ D.used ≤ 4611686018427387904) (hsl : (D.cont n).seen.length ≤ 1099511627776) :
    Calls Tryz.prog 52 #[.pointer (some ⟨a, 0, none⟩), .string s] w fun e w' => e = .returned (.tuple #[]) ∧ ∃ D', DiskIs w' own a D' ∧ D'.seen = D.seen ∧ D'.laid = D.laid ∧ D'.kept = D.kept ∧ D'.fm = D.fm ∧ Steps own own w w' := by
  have HFIN := Lib.hid (fun (W : World) => h.emptied hfb (D.used - ((D.cont n).seen.length : Int)) (W := W))
  have hafb : a ≠ fb := by
    rintro rfl
    obtain ⟨ms, mk, mf, lv, _, h2⟩ := h.out
    have := (h2.each n a hfb).role
    rw [h.role] at this; cases this
  obtain ⟨ms, mk, mf, lv, h1, h2⟩ := h.out
  have hfile := h2.each n fb hfb
  obtain ⟨⟨sv, kv, lv', cs, f1, f2, f3, f4, f5, f6⟩, hr, hbf⟩ := hfile
  obtain ⟨p, c, rfl⟩ := row_slice f2.owns
  have l1 := (h2.seen.look strK namesT (zeroInt w) s).1
  have l2 := (h2.files.look natK filesT (zeroFile w) n).2
  rw [hg] at l1
  rw [hfb] at l2
  unfold strV at l1
  simp only [Option.map_some, Option.getD_some, Option.isSome_some, natV, ptrV] at l1 l2
  have g1 := cells_of h1 1
  have g4 := cells_of h1 4
  have g8 := cells_of h1 8
  have q0 := cells_of f1 0
  unfold diskCells at g1 g4 g8
  simp only [List.getElem?_toArray, List.getElem?_cons_zero, List.getElem?_cons_succ] at g1 g4 g8 q0
  have fz := free_of h1
  have fz2 := free_of f1
  have hw : IntKind.i64.wrap (D.used - ((D.cont n).seen.length : Int)) = D.used - ((D.cont n).seen.length : Int) := IntWalk.i64_in _ (by omega)
  have H := Lib.hid h; have H1 := Lib.hid h1; have H2 := Lib.hid h2; have F1 := Lib.hid f1
  clear h h1 h2 f1 f2 f3 f4 f5 f6 hbf hr hg hfb
  go_enter Tryz.func52, Tryz.ntmps52
  go_wp2
  go_region
  go_wp2
  go_returns
  exact ⟨rfl, HFIN.out _ rfl rfl rfl rfl⟩

set_option maxRecDepth 100000 in
theorem remove_any (own : Own) (a : Nat) (D : DiskA) (s : ByteArray) (w : World) (h : DiskIs w own a D) (hk : D.Ok) (ho : D.ops < 4611686018427387904) (hl : D.left < 4611686018427387904) (hs : s.size ≤ maxLen)
    (hu : -4611686018427387904 ≤ D.used ∧ D.used ≤ 4611686018427387904) (hsl : ∀ n, (D.cont n).seen.length ≤ 1099511627776) (hll : D.laid.length < 1000000) :
    Calls Tryz.prog 23 #[.pointer (some ⟨a, 0, none⟩), .string s] w fun e w' => (∃ x, e = .returned (.int .i64 x)) ∧ ∃ own', Steps own own' w w' := by
  have hfind := find_any own a D s true w h hk ho hl hs
  rw [Bool.true_and] at hfind
  obtain ⟨D1, hD1⟩ : ∃ D1, D1 = (D.begin (mayName s)).1 := ⟨_, rfl⟩
  obtain ⟨err, herr⟩ : ∃ err, err = (D.begin (mayName s)).2 := ⟨_, rfl⟩
  have hsame := D.begin_same (mayName s)
  rw [← hD1] at hsame
  obtain ⟨_, _, e3, _, e5, _, e7, _⟩ := hsame
  rw [← hD1, ← herr] at hfind
  rw [← e7] at hu
  rw [← e5] at hsl
  rw [← e3] at hll
  have HF := Lib.hid hfind; have HU := Lib.hid hu; have HSL := Lib.hid hsl; have HLL := Lib.hid hll
  clear hfind h hk ho hl hD1 herr hu hsl hll e3 e5 e7
  go_enter Tryz.func23, Tryz.ntmps23
  go_wp2_with fail
  refine HF.out.mono ?_
  rintro e w1 ⟨hd, hst, ⟨he, rfl⟩ | ⟨rfl, hg, rfl⟩ | ⟨rfl, n, fb, hg, hfb, rfl⟩⟩
  · have HST := Lib.hid hst; clear hd hst
    go_wp2
    go_ret
    exact ⟨⟨_, rfl⟩, own, HST.out⟩
  · have HST := Lib.hid hst; clear hd hst hg
    go_wp2
    go_ret
    exact ⟨⟨_, rfl⟩, own, HST.out⟩
  · have HE := Lib.hid (empty_any own a n fb D1 s w1 hd hg hfb HU.out (HSL.out n))
    have HST := Lib.hid hst; have HG := Lib.hid hg
    clear hd hst hg hfb
    go_wp2_with fail
    refine HE.out.mono ?_
    rintro e w2 ⟨rfl, D2, hd2, e1, e2, _, _, hs2⟩
    obtain ⟨ms, mk, mf, lv, h1, h2⟩ := hd2.out
    have hne : mk ≠ .map none := fun e => by
      have := (h2.bare e).1
      rw [e1] at this
      have hg := HG.out
      rw [this] at hg; cases hg
    have hf := h2.full hne
    obtain ⟨bs, rfl⟩ : ∃ bs, ms = .map (some bs) := by
      rcases h2.seen with ⟨e, _⟩ | ⟨b, e, _⟩
      · exact absurd e hf.1
      · exact ⟨b, e⟩
    obtain ⟨bf, rfl⟩ : ∃ bf, mf = .map (some bf) := by
      rcases h2.files with ⟨e, _⟩ | ⟨b, e, _⟩
      · exact absurd e hf.2
      · exact ⟨b, e⟩
    have HA := Lib.hid (alterRemove_any own a bs bf D2 s w2 ⟨hd2, mk, lv, h1, h2, hne⟩ (by rw [e2]; exact HLL.out))
    have ST2 := Lib.hid (HST.out.trans hs2)
    clear hd2 h1 h2 hne hf hs2
    unfold nameV at HA
    go_wp2_with fail
    refine HA.out.mono ?_
    rintro e w3 ⟨rfl, own3, _, hs3⟩
    have ST3 := Lib.hid (ST2.out.trans hs3)
    clear hs3
    go_wp2
    go_ret
    exact ⟨⟨_, rfl⟩, own3, ST3.out⟩
end Go.Proofs.YtldkeelgnfegeaaGreat

/- The disk: Rename, to a name that is free. -/
namespace Go.Proofs.YtldkeelgnfegeaaGreat
open Go Go.RowKit Go.By

set_option maxRecDepth 100000 in
theorem redoRename_any (s t : ByteArray) (n b : Nat) (m : List (ByteArray × Nat)) (w : World) (hm : Mp.Is w b strV natV m) (hg0 : Mp.get m s = some n) :
    Calls Tryz.prog 63 #[.agg #[.string s, .string t], .map (some b)] w fun e w' => e = .returned (.tuple #[]) ∧ Mp.Is w' b strV natV (Mp.put (Mp.del m s) t n) ∧ w.grownBy w' (some b) := by
  have hlt := hm.lt
  obtain ⟨W, hW⟩ : ∃ W, W = w.alloc (.cells #[.string s, .string t] 119) := ⟨_, rfl⟩
  have hm1 : Mp.Is W b strV natV m := by rw [hW]; exact hm.of_heap (Below.heap_alloc _ _ _ hlt)
  have hWs : W.heap.size = w.heap.size + 1 := by rw [hW]; simp
  have hW0 : W.heap[w.heap.size]? = some (.cells #[.string s, .string t] 119 (0, 0)) := by rw [hW]; exact heap_alloc_new w _
  have hWb : ∀ k, k < w.heap.size → W.heap[k]? = w.heap[k]? := fun k hk => by rw [hW]; exact Below.heap_alloc _ _ _ hk
  have hWo : W.os = w.os ∧ W.tape = w.tape ∧ W.output = w.output := by rw [hW]; exact ⟨rfl, rfl, rfl⟩
  have hl := (hm1.look strK namesT (zeroInt W) s).2
  rw [hg0] at hl
  simp only [Option.map_some, Option.getD_some] at hl
  obtain ⟨es, clock, hh⟩ : ∃ es clock, W.heap[b]? = some (.map es clock) := let ⟨⟨es, clock, h, _⟩, _⟩ := hm1; ⟨es, clock, h⟩
  obtain ⟨o, hrun0, hm2⟩ := hm1.delete strK namesT s 0
  have hrun : ∀ ty, (Builtin.delete_ #[51, 9] ty #[.map (some b), .string s]).run Tryz.prog W = .ok (.tuple #[]) { W with heap := W.heap.setIfInBounds b o } := fun _ => hrun0
  have hg := set_grown (o' := o) hh
  generalize ({ W with heap := W.heap.setIfInBounds b o } : World) = w2 at *
  obtain ⟨w3, hrun2, hm3, hg3, _⟩ := update_world hm2 strK namesT t n
  have c0 : W.cell? ⟨w.heap.size, 0, none⟩ = some (.string s) := cells_of hW0 0
  have hne : w.heap.size ≠ b := by omega
  have hb2 : w2.heap[w.heap.size]? = W.heap[w.heap.size]? := hg.block _ (by omega) (by simpa using hne)
  have d0 : w2.cell? ⟨w.heap.size, 0, none⟩ = some (.string s) := (World.cell?_of_block hb2).trans c0
  have d1 : w2.cell? ⟨w.heap.size, 1, none⟩ = some (.string t) := (World.cell?_of_block hb2).trans (cells_of hW0 1)
  have fin : Mp.Is w3 b strV natV (Mp.put (Mp.del m s) t n) ∧ w.grownBy w3 (some b) := ⟨hm3, ⟨hg3.os.trans (hg.os.trans hWo.1), hg3.tape.trans (hg.tape.trans hWo.2.1), hg3.output.trans (hg.output.trans hWo.2.2), by have := hg.size; have := hg3.size; omega, fun k hk hn =>
    (hg3.block k (by have := hg.size; omega) hn).trans ((hg.block k (by omega) hn).trans (hWb k hk))⟩⟩
  have FIN := Lib.hid fin
  have HW := Lib.hid hW
  unfold strV natV at hrun2 hl
  clear hm hm1 hm2 hm3 hg hg3 fin hlt hrun0 hh hWs hW0 hWb hWo hb2 hne hW
  go_enter Tryz.func63, Tryz.ntmps63
  go_wp2_with fail
  rw [← HW.out, hl]
  go_wp2
  go_returns
  exact ⟨rfl, FIN.out⟩

set_option maxRecDepth 100000 in
theorem alterRename_any (own : Own) (a bs bf : Nat) (D : DiskA) (s t : ByteArray) (n : Nat) (w : World) (h : Tabled w own a bs bf D) (hg0 : Mp.get D.seen s = some n) (hl : D.laid.length < 1000000) :
    Calls Tryz.prog 45 #[.pointer (some ⟨a, 0, none⟩), nameV (.rename s t)] w fun e w' => e = .returned (.tuple #[]) ∧ ∃ own', Tabled w' own' a bs bf { D with seen := Mp.put (Mp.del D.seen s) t n, laid := D.laid ++ [.rename s t] } ∧ Steps own own' w w' := by
  obtain ⟨hd, mk, lv, h1, h2, h3⟩ := h
  have g4 : w.cell? ⟨a, 4, none⟩ = some (.map (some bs)) := cells_of h1 4
  have hrs : own bs = some .seen ∧ Mp.Is w bs strV natV D.seen := by
    rcases h2.seen with ⟨h, _⟩ | ⟨b, h, hb, hm⟩
    · cases h
    · cases h; exact ⟨hb, hm⟩
  have hlt : a < w.heap.size := hd.here a _ hd.role
  have hne : bs ≠ a := by
    rintro rfl
    rw [hd.role] at hrs; cases hrs.1
  have HG0 := Lib.hid hg0
  clear hg0
  have HD := Lib.hid hd; have H1 := Lib.hid h1; have H2 := Lib.hid h2; have HR := Lib.hid hrs
  clear hd h1 h2 hrs
  obtain ⟨i0, hi, hz0, hz1, hz2⟩ := info_parts nameOpInfo
  have HI := Lib.hid hi; have Z0 := Lib.hid hz0; have Z1 := Lib.hid hz1; have Z2 := Lib.hid hz2
  clear hi hz0 hz1 hz2
  unfold nameV
  go_enter Tryz.func45, Tryz.ntmps45
  go_wp2_with fail
  refine (redoRename_any s t n bs D.seen w HR.out.2 HG0.out).mono ?_
  rintro e w1 ⟨rfl, hm1, hg1⟩
  have q6 : w1.cell? ⟨a, 6, none⟩ = some lv := by
    rw [World.cell?_of_block (hg1.block a hlt (by simpa using fun h => hne h.symm))]; exact cells_of H1.out 6
  have HM1 := Lib.hid hm1; have HG1 := Lib.hid hg1
  have hlb : ∀ k, lv.ownBlock = some k → k < w.heap.size ∧ k ≠ bs ∧ k ≠ a := fun k hk => ⟨HD.out.here k _ (H2.out.laidR k hk), (by
    rintro rfl; have := H2.out.laidR k hk; rw [HR.out.1] at this; cases this), (by
    rintro rfl; have := H2.out.laidR k hk; rw [HD.out.role] at this; cases this)⟩
  have ho1 := ownsRow_of_heap H2.out.laid (w' := w1) fun k hk => hg1.block k (hlb k hk).1 (by simpa using (hlb k hk).2.1)
  have HO1 := Lib.hid ho1
  have HLB := Lib.hid hlb
  clear hm1 hg1 g4 ho1 hlb
  go_wp2_with (at_builtin; refine wpList_append_own_at _ rfl (.tmp 14) (.tmp 16) 52 rfl 0 109 i0 .nilFunc 1 8 nameOps HI.out Z0.out Z1.out Z2.out rfl (by decide) lv D.laid.length (D.laid.map nameV) rfl (HO1.out.alloc _) ⟨w1.heap.size, 0, none⟩ 1 1 [nameV (.rename s t)] rfl rfl ?c1 ?c2 ?c3 ?c4 ?c5 ?c6)
  case c1 =>
    intro j u hu
    match j with
    | 0 => simp at hu; subst hu; exact World.cell?_alloc_new w1 _ _ 0
    | j + 1 => simp at hu
  case c2 => intro u hu; simp at hu; subst hu; rfl
  case c3 => unfold maxLen; omega
  case c4 => omega
  case c5 => omega
  intro v2 w2 hown hgrow _ hat
  obtain ⟨p2, c2, rfl⟩ : ∃ p c, v2 = .slice p (D.laid.length + 1) c := by
    rcases hown.2 with ⟨_, h⟩ | ⟨g, c, _, h, _⟩
    · omega
    · exact ⟨_, c, h⟩
  have z1 := HG1.out.size
  have q6' : w2.cell? ⟨a, 6, none⟩ = some lv := by
    rw [World.cell?_of_block (hgrow.block a (by simp; omega) (fun e => (HLB.out a e.symm).2.2 rfl)), World.cell?_alloc_lt _ _ _ (by simp; omega)]; exact q6
  have f6' : w2.frozen? ⟨a, 6, none⟩ = false := by
    rw [World.frozen?_of_block (hgrow.block a (by simp; omega) (fun e => (HLB.out a e.symm).2.2 rfl)), World.frozen?_alloc_old _ _ _ (by simp; omega), World.frozen?_of_block (HG1.out.block a hlt (by simpa using fun h => hne h.symm))]
    exact free_of H1.out 6
  have fin := laid_done HD.out H1.out H2.out h3 HR.out.1 HM1.out HG1.out hown hgrow (by simpa using hat)
  have FIN := Lib.hid fin
  clear fin hown hgrow hat q6
  go_wp2
  go_returns
  exact ⟨rfl, FIN.out⟩

set_option maxRecDepth 100000 in
theorem emptyNone_any (own : Own) (a : Nat) (D : DiskA) (s : ByteArray) (w : World) (h : DiskIs w own a D) (hg : Mp.get D.seen s = none) :
    Calls Tryz.prog 52 #[.pointer (some ⟨a, 0, none⟩), .string s] w fun e w' => e = .returned (.tuple #[]) ∧ w = w' := by
  obtain ⟨ms, mk, mf, lv, h1, h2⟩ := h.out
  have l1 := (h2.seen.look strK namesT (zeroInt w) s).1
  rw [hg] at l1
  unfold strV at l1
  simp only [Option.map_none, Option.getD_none, Option.isSome_none] at l1
  have g4 := cells_of h1 4
  unfold diskCells at g4
  simp only [List.getElem?_toArray, List.getElem?_cons_zero, List.getElem?_cons_succ] at g4
  clear h h1 h2 hg
  go_enter Tryz.func52, Tryz.ntmps52
  go_wp2
  go_returns
  exact ⟨rfl, rfl⟩

set_option maxRecDepth 100000 in
theorem rename_any (own : Own) (a n : Nat) (D : DiskA) (s t : ByteArray) (w : World) (h : DiskIs w own a D) (hk : D.Ok) (ho : D.ops < 4611686018427387904) (hl : D.left < 4611686018427387904) (hs : s.size ≤ maxLen) (hts : t.size ≤ maxLen) (hll : D.laid.length < 1000000)
    (hmay : mayName s = true) (hmay2 : mayName t = true) (hl1 : D.left ≠ 1) (hne : (s.toList == t.toList) = false) (hg : Mp.get D.seen s = some n) (hg2 : Mp.get D.seen t = none) :
    Calls Tryz.prog 38 #[.pointer (some ⟨a, 0, none⟩), .string s, .string t] w fun e w' => e = .returned (.int .i64 0) ∧ ∃ own', Steps own own' w w' ∧ DiskIs w' own' a { (D.begin true).1 with seen := Mp.put (Mp.del D.seen s) t n, laid := D.laid ++ [.rename s t] } := by
  have hfind := find_any own a D s (mayName t) w h hk ho hl hs
  rw [hmay, hmay2, Bool.true_and] at hfind
  have hsame := D.begin_same true
  have herr : (D.begin true).2 = 0 := by unfold DiskA.begin; rw [if_neg hl1]; rfl
  obtain ⟨D1, hD1⟩ : ∃ D1, D1 = (D.begin true).1 := ⟨_, rfl⟩
  rw [← hD1] at hsame hfind ⊢
  rw [herr] at hfind
  obtain ⟨e1, _, e3, _⟩ := hsame
  rw [← e1] at hg hg2 ⊢
  rw [← e3] at hll ⊢
  have hmn := fun w0 => mayName_any t w0 hts
  rw [hmay2] at hmn
  have HMN := Lib.hid hmn
  have HF := Lib.hid hfind; have HG := Lib.hid hg; have HG2 := Lib.hid hg2; have HLL := Lib.hid hll
  clear hfind h hk ho hl hD1 herr hg hg2 hll e1 e3 hmay hmay2 hmn
  go_enter Tryz.func38, Tryz.ntmps38
  go_wp2_with (go_at_call 43; refine (HMN.out _).mono ?_; rintro e w1 ⟨rfl, rfl⟩)
  refine HF.out.mono ?_
  rintro e w1 ⟨hd, hst, ⟨he, rfl⟩ | ⟨_, hgn, rfl⟩ | ⟨_, n', fb, hgn, hfb, rfl⟩⟩
  · exact absurd rfl he
  · rw [HG.out] at hgn; cases hgn
  · have HE := Lib.hid (emptyNone_any own a D1 t w1 hd HG2.out)
    obtain ⟨ms, mk, mf, lv, h1, h2⟩ := hd.out
    have hmk : mk ≠ .map none := fun e => by
      have := (h2.bare e).1
      have hg := HG.out
      rw [this] at hg; cases hg
    have hf := h2.full hmk
    obtain ⟨bs, rfl⟩ : ∃ bs, ms = .map (some bs) := by
      rcases h2.seen with ⟨e, _⟩ | ⟨b, e, _⟩
      · exact absurd e hf.1
      · exact ⟨b, e⟩
    obtain ⟨bf, rfl⟩ : ∃ bf, mf = .map (some bf) := by
      rcases h2.files with ⟨e, _⟩ | ⟨b, e, _⟩
      · exact absurd e hf.2
      · exact ⟨b, e⟩
    have HA := Lib.hid (alterRename_any own a bs bf D1 s t n w1 ⟨hd, mk, lv, h1, h2, hmk⟩ HG.out HLL.out)
    have HST := Lib.hid hst
    clear hd h1 h2 hmk hf hst hgn hfb
    unfold nameV at HA
    go_wp2_with fail
    refine HE.out.mono ?_
    rintro e w2 ⟨rfl, rfl⟩
    go_wp2_with fail
    refine HA.out.mono ?_
    rintro e w3 ⟨rfl, own3, htab, hs3⟩
    have FIN : Hid (∃ own', Steps own own' w w3 ∧ DiskIs w3 own' a { D1 with seen := Mp.put (Mp.del D1.seen s) t n, laid := D1.laid ++ [.rename s t] }) := ⟨own3, HST.out.trans hs3, htab.disk⟩
    clear htab hs3
    go_wp2
    go_ret
    exact ⟨rfl, FIN.out⟩
end Go.Proofs.YtldkeelgnfegeaaGreat

/- The disk: names that last: the first loop of settle. -/
namespace Go.Proofs.YtldkeelgnfegeaaGreat
open Go Go.RowKit Go.By

def redoName : NameOp → List (ByteArray × Nat) → List (ByteArray × Nat)
  | .create s n, m => Mp.put m s n
  | .remove s, m => Mp.del m s
  | .rename s t, m => Mp.put (Mp.del m s) t ((Mp.get m s).getD 0)
def redoNames (l : List NameOp) (m : List (ByteArray × Nat)) : List (ByteArray × Nat) := l.foldl (fun m o => redoName o m) m
def NameOp.told : NameOp → Bool
  | .rename _ _ => false
  | _ => true
theorem redoNames_snoc (l : List NameOp) (o : NameOp) (m : List (ByteArray × Nat)) : redoNames (l ++ [o]) m = redoName o (redoNames l m) := by simp [redoNames]

/-- What redoing names has turned: the kept map alone. -/
structure KeptTo (w wr : World) (mk : Value) (own : Own) (K : List (ByteArray × Nat)) : Prop where
  map : MapV wr own .kept mk strV natV K
  os : wr.os = w.os
  tape : wr.tape = w.tape
  output : wr.output = w.output
  size : w.heap.size ≤ wr.heap.size
  block : ∀ j, j < w.heap.size → mk ≠ .map (some j) → wr.heap[j]? = w.heap[j]?

theorem KeptTo.step {w wr w2 : World} {b : Nat} {own : Own} {K K' : List (ByteArray × Nat)} (h : KeptTo w wr (.map (some b)) own K) (hr : own b = some .kept) (hm : Mp.Is w2 b strV natV K') (hg : wr.grownBy w2 (some b)) : KeptTo w w2 (.map (some b)) own K' :=
  ⟨.inr ⟨b, rfl, hr, hm⟩, hg.os.trans h.os, hg.tape.trans h.tape, hg.output.trans h.output, Nat.le_trans h.size hg.size, fun j hj hne =>
    (hg.block j (Nat.lt_of_lt_of_le hj h.size) (fun e => hne (by cases e; rfl))).trans (h.block j hj hne)⟩

/-- One operation on names, done again, by its value. -/
theorem redoName_any (o : NameOp) (ho : o.told = true) (b : Nat) (m : List (ByteArray × Nat)) (w : World) (hm : Mp.Is w b strV natV m) :
    ∃ fid recv, nameV o = .func (.func fid) #[recv] #[] ∧ (∀ args w, (callFunc fid args).run Tryz.prog w = .ok (.enter fid args) w) ∧ Calls Tryz.prog fid #[recv, .map (some b)] w (fun e w' => e = .returned (.tuple #[]) ∧ Mp.Is w' b strV natV (redoName o m) ∧ w.grownBy w' (some b)) := by
  cases o with
  | create s n => exact ⟨_, _, rfl, by intro args w; kernel_rfl, redoCreate_any s n b m w hm⟩
  | remove s => exact ⟨_, _, rfl, by intro args w; kernel_rfl, redoRemove_any s b m w hm⟩
  | rename s t => cases ho

theorem nameOps_size (w : World) : (sizeOf (Tryz.prog.elem 52)).run Tryz.prog w = .ok 1 w := by kernel_rfl
set_option maxRecDepth 100000 in
theorem upto_runN (p : Option Addr) (len cap n : Nat) (hn : n ≤ cap) (w : World) : (Instr.slice 52 (.slice p len cap) none (some (.int .i64 (n : Int))) none).run Tryz.prog w = .ok (.slice p n cap) w := by
  have hr := run_slice_h (P := Tryz.prog) w 52 p len cap (by kernel_rfl) .i64 (n : Int) (by omega) (by omega)
  have e2 : (n : Int).toNat = n := by omega
  simp only [nameOps_size, Result.andThen, e2, sliced, Nat.zero_mul, Nat.sub_zero] at hr
  rw [hr]
  congr 2
  split
  · rfl
  · cases p with
    | none => rfl
    | some a => simp [Addr.add]

theorem run_makeMap_int {t kt et : TypeId} (ht : Tryz.prog.underlying t = some (.map kt et)) (k : IntKind) (n : Int) (w : World) : (Instr.makeMap t (some (.int k n))).run Tryz.prog w = .ok (.map (some w.heap.size)) (w.alloc (.map #[] 0)) := by
  simp [Instr.makeMap, run_underlying ht, asInt, asIntOf]


/-- Everything that settle leaves is told of here: numbers that lead to files by name, and the others no more. -/
def Kept (fm : List (Nat × Nat)) (K : List (ByteArray × Nat)) (fm' : List (Nat × Nat)) : Prop := ∀ n, Mp.get fm' n = if n ∈ K.map (·.2) then Mp.get fm n else none
def DiskA.settled (D : DiskA) (n : Nat) (fm' : List (Nat × Nat)) : DiskA :=
  { D with kept := redoNames (D.laid.take n) D.kept, seen := redoNames (D.laid.take n) D.kept, laid := [], fm := fm' }

set_option maxRecDepth 100000 in
theorem settle_nil (own : Own) (a : Nat) (D : DiskA) (w : World) (h : DiskIs w own a D) {ms lv mf : Value} (h1 : w.heap[a]? = some (.cells (diskCells D ms (.map none) lv mf) 56 (0, 0))) (h2 : Parts w own ms (.map none) mf lv D) :
    Calls Tryz.prog 25 #[.pointer (some ⟨a, 0, none⟩), .int .i64 0] w fun e w' => e = .returned (.tuple #[]) ∧
      w'.heap.size = w.heap.size + 2 ∧ w'.heap[w.heap.size]? = some (.map #[] 0) ∧ w'.heap[a]? = some (.cells (diskCells D (.map none) (.map none) (.slice none 0 0) (.map (some w.heap.size))) 56 (0, 0)) ∧
      w'.os = w.os ∧ w'.tape = w.tape ∧ w'.output = w.output ∧ ∀ k, k < w.heap.size → k ≠ a → w'.heap[k]? = w.heap[k]? := by
  have hlt : a < w.heap.size := h.here a _ h.role
  obtain ⟨p, c, hlv⟩ : ∃ p c, lv = .slice p 0 c := by
    have hb := h2.bare rfl
    have := h2.laid
    rw [hb.2.2] at this
    rcases this.2 with ⟨h, _⟩ | ⟨g, c, _, h, _⟩
    · exact ⟨none, 0, h⟩
    · exact ⟨_, c, h⟩
  subst hlv
  have c4 : w.cell? ⟨a, 4, none⟩ = some ms := cells_of h1 4
  have c5 : w.cell? ⟨a, 5, none⟩ = some (.map none) := cells_of h1 5
  have c6 : w.cell? ⟨a, 6, none⟩ = some (.slice p 0 c) := cells_of h1 6
  have c8 : w.cell? ⟨a, 8, none⟩ = some mf := cells_of h1 8
  have f4 := free_of h1 4
  have f6 := free_of h1 6
  have f8 := free_of h1 8
  have hup := upto_runN p 0 c 0 (Nat.zero_le _)
  have H1 := Lib.hid h1
  clear h h1 h2
  go_enter Tryz.func25, Tryz.ntmps25
  go_wp2
  clear hup
  go_loop [16] (fun i => i = .int .i64 0) (fun _ => 0)
  case atStart => rfl
  case round =>
    subst hrel
    have hln : ∀ (w : World) (ty : TypeId), (Builtin.len_ #[51] ty #[.map none]).run Tryz.prog w = .ok (.int .i64 0) w := fun w ty => by
      simp [Builtin.len_, run_underlying namesT, goInt]
    go_wp2_with fail
    refine (cloneNil_any _).mono ?_
    rintro e w1 ⟨rfl, rfl⟩
    have hmk := fun w => run_makeMap_int filesT .i64 0 w
    go_wp2_with fail
    obtain ⟨W5, hW5⟩ : ∃ W5, W5 = ((w.setCell ⟨a, 6, none⟩ (.slice none 0 0)).setCell ⟨a, 4, none⟩ (.map none)).alloc (.map #[] 0) := ⟨_, rfl⟩
    rw [← hW5]
    have s6 := set_heap H1.out 6 (.slice none 0 0)
    have s4 := set_heap s6.1 4 (.map none)
    have z5 : W5.heap.size = w.heap.size + 1 := by rw [hW5]; simp
    have k5 : W5.heap[w.heap.size]? = some (.map #[] 0) := by
      rw [hW5]
      have := heap_alloc_new ((w.setCell ⟨a, 6, none⟩ (.slice none 0 0)).setCell ⟨a, 4, none⟩ (.map none)) (.map #[] 0)
      simpa using this
    have a5 : W5.heap[a]? = some (.cells (diskCells D (.map none) (.map none) (.slice none 0 0) mf) 56 (0, 0)) := by
      rw [hW5, Below.heap_alloc _ _ _ (by simpa using hlt)]; exact s4.1
    have o5 : W5.os = w.os ∧ W5.tape = w.tape ∧ W5.output = w.output := by rw [hW5]; exact ⟨rfl, rfl, rfl⟩
    have b5 : ∀ k, k < w.heap.size → k ≠ a → W5.heap[k]? = w.heap[k]? := fun k hk hne => by
      rw [hW5, Below.heap_alloc _ _ _ (by simpa using hk)]
      exact (s4.2 k hne).trans (s6.2 k hne)
    have hlt5 : a < W5.heap.size := by omega
    have a6 : (W5.alloc (.mapIter none 0 #[] 0)).heap[a]? = some (.cells (diskCells D (.map none) (.map none) (.slice none 0 0) mf) 56 (0, 0)) := (Below.heap_alloc _ _ _ hlt5).trans a5
    have d8 : (W5.alloc (.mapIter none 0 #[] 0)).cell? ⟨a, 8, none⟩ = some mf := cells_of a6 8
    have e8 : (W5.alloc (.mapIter none 0 #[] 0)).frozen? ⟨a, 8, none⟩ = false := free_of a6 8
    have s8 := set_heap a6 8 (.map (some w.heap.size))
    have fin : ((W5.alloc (.mapIter none 0 #[] 0)).setCell ⟨a, 8, none⟩ (.map (some w.heap.size))).heap.size = w.heap.size + 2 ∧ ((W5.alloc (.mapIter none 0 #[] 0)).setCell ⟨a, 8, none⟩ (.map (some w.heap.size))).heap[w.heap.size]? = some (.map #[] 0) ∧
        ((W5.alloc (.mapIter none 0 #[] 0)).setCell ⟨a, 8, none⟩ (.map (some w.heap.size))).heap[a]? = some (.cells (diskCells D (.map none) (.map none) (.slice none 0 0) (.map (some w.heap.size))) 56 (0, 0)) ∧
        ((W5.alloc (.mapIter none 0 #[] 0)).setCell ⟨a, 8, none⟩ (.map (some w.heap.size))).os = w.os ∧ ((W5.alloc (.mapIter none 0 #[] 0)).setCell ⟨a, 8, none⟩ (.map (some w.heap.size))).tape = w.tape ∧ ((W5.alloc (.mapIter none 0 #[] 0)).setCell ⟨a, 8, none⟩ (.map (some w.heap.size))).output = w.output ∧
        ∀ k, k < w.heap.size → k ≠ a → ((W5.alloc (.mapIter none 0 #[] 0)).setCell ⟨a, 8, none⟩ (.map (some w.heap.size))).heap[k]? = w.heap[k]? := by
      refine ⟨by simp; omega, ?_, s8.1, o5.1, o5.2.1, o5.2.2, fun k hk hne => (s8.2 k hne).trans ((Below.heap_alloc _ _ _ (by omega)).trans (b5 k hk hne))⟩
      exact (s8.2 _ (by omega)).trans ((Below.heap_alloc _ _ _ (by omega)).trans k5)
    have FIN := Lib.hid fin
    have hrg := run_range_nilMap (P := Tryz.prog) W5 51 9 3 namesT
    have hnx : ∀ ty, (Instr.next (.pointer (some ⟨W5.heap.size, 0, none⟩)) false ty).run Tryz.prog (W5.alloc (.mapIter none 0 #[] 0)) = _ := fun ty => run_next_nilMap W5 ty 0 0 #[]
    clear s6 s4 z5 k5 a5 o5 b5 a6 s8 fin hW5 hmk hln c4 c5 c6 c8 f4 f6 f8 hlt hlt5
    rw [hrg]
    go_wp2
    refine wp_loop_rounds 1 ?_
    rw [rounds_succ]
    go_wp2
    go_returns
    exact ⟨rfl, FIN.out⟩
end Go.Proofs.YtldkeelgnfegeaaGreat
