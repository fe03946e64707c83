/- The disk: file.settle. -/
import Derived.Test.YtobhhedggppneaaDskK
namespace Go.Proofs.Ytobhhedggppneaa
open Go Go.RowKit Go.By

/-- The roles of one file. -/
def ofFile (n : Nat) (r : Role) : Prop := r = .file n ∨ r = .fseen n ∨ r = .fkept n ∨ r = .flaid n

/-- A step on one file alone. -/
structure FileStep (n : Nat) (lb : Option Nat) (own own' : Own) (w w' : World) : Prop where
  turned : Turned (fun j => (∃ r, own j = some r ∧ ofFile n r) ∨ lb = some j) w w'
  same : ∀ k, k < w.heap.size → own' k = own k
  role : ∀ k r, own k = some r → own' k = some r
  new : ∀ k r, own' k = some r → own k = some r ∨ (w.heap.size ≤ k ∧ k < w'.heap.size ∧ (ofFile n r ∨ r = .ink))

theorem own_went {own : Own} {w w' : World} (here : ∀ k r, own k = some r → k < w.heap.size) {v v' : Value} {r : Role} (hv : ∀ k, v.ownBlock = some k → own k = some r)
    (hat : v'.ownBlock = v.ownBlock ∨ ∃ q, v'.ownBlock = some q ∧ w.heap.size ≤ q) (hlt : ∀ k, v'.ownBlock = some k → k < w'.heap.size) :
    ∃ own' : Own, (∀ k, k < w.heap.size → own' k = own k) ∧ (∀ k r', own k = some r' → own' k = some r') ∧ (∀ k, v'.ownBlock = some k → own' k = some r) ∧ (∀ k r', own' k = some r' → own k = some r' ∨ (w.heap.size ≤ k ∧ k < w'.heap.size ∧ r' = r)) := by
  rcases hat with h | ⟨q, h, hq⟩
  · exact ⟨own, fun _ _ => rfl, fun _ _ h => h, fun k hk => hv k (h ▸ hk), fun k r' hk => .inl hk⟩
  · refine ⟨own.add q r, fun k hk => Own.add_lt (by omega), fun k r' hk => Own.add_old here hq hk, fun k hk => ?_, fun k r' hk => ?_⟩
    · rw [h] at hk; cases hk; exact Own.add_self _ _ _
    · rcases Own.add_some hk with ⟨rfl, h'⟩ | h'
      · exact .inr ⟨hq, hlt _ h, h'⟩
      · exact .inl h'

theorem redoWrite_small {off : Nat} {b : List Nat} {bit : Nat → Bool} (hb : ∀ c ∈ b, c < 256) : ∀ (f k i : Nat) (l : List Nat), (∀ c ∈ l, c < 256) → ∀ c ∈ (redoWrite off b bit f k i l).1, c < 256
  | 0, _, _, _, h => h
  | f + 1, k, i, l, h => by
    unfold redoWrite
    split
    · refine redoWrite_small hb f _ _ _ ?_
      split
      · exact putL_small h fun c hc => hb c (List.mem_of_mem_drop (List.mem_of_mem_take hc))
      · exact h
    · exact h
theorem redoOp_small {bit : Nat → Bool} {w : World} {own : Own} {c : Value} {o : ByteOp} (ho : OpV w own c o) {i : Nat} {l : List Nat} (h : ∀ c ∈ l, c < 256) : ∀ c ∈ (redoOp bit o i l).1, c < 256 := by
  cases o with
  | write off b => obtain ⟨bv, _, hb, _⟩ := ho; exact redoWrite_small hb.small _ _ _ _ h
  | cut n =>
    show ∀ c ∈ (if bit i then fitL l n else l), c < 256
    split
    · exact fitL_small h
    · exact h

theorem Turned.setCell {S : Nat → Prop} {w w' : World} (h : Turned S w w') {a : Nat} (hS : S a) (i : Nat) (v : Value) : Turned S w (w'.setCell ⟨a, i, none⟩ v) :=
  ⟨h.os, h.tape, h.output, by simp; exact h.size, fun k hk hn => (heap_setCell_other w' ⟨a, i, none⟩ k v (fun e => hn (by have e' : k = a := e; rw [e']; exact hS))).trans (h.block k hk hn)⟩

/-- While a file settles. -/
structure Settling (lb : Option Nat) (w wr : World) (fb : Nat) (sv kv kv1 lv : Value) (l1 : List Nat) : Prop where
  heap : wr.heap[fb]? = some (.cells #[sv, kv1, lv] 65 (0, 0))
  owns : wr.ownsRow 0 5 1 kv1 l1.length (cellsOf l1)
  turned : Turned (fun j => j = fb ∨ kv.ownBlock = some j ∨ lb = some j) w wr
  moved : kv1.ownBlock = kv.ownBlock ∨ ∃ q, kv1.ownBlock = some q ∧ w.heap.size ≤ q
  small : ∀ c ∈ l1, c < 256

theorem Settling.step {S : Nat → Prop} {lb : Option Nat} {w wr w2 : World} {fb : Nat} {sv kv kv1 kv2 lv : Value} {l1 l2 : List Nat} (h : Settling lb w wr fb sv kv kv1 lv l1) (k : RowTo S lb wr w2 kv1 kv2 l2)
    (h1 : kv.ownBlock ≠ some fb) (h2 : lb ≠ some fb) (h3 : fb < w.heap.size) (hs : ∀ c ∈ l2, c < 256) : Settling lb w (w2.setCell ⟨fb, 1, none⟩ kv2) fb sv kv kv2 lv l2 := by
  have hne : kv1.ownBlock ≠ some fb := by
    rcases h.moved with hm | ⟨q, hm, hq⟩
    · rw [hm]; exact h1
    · rw [hm]; intro e; cases e; omega
  have hfb : w2.heap[fb]? = some (.cells #[sv, kv1, lv] 65 (0, 0)) := (k.keeps (Nat.lt_of_lt_of_le h3 h.turned.size) hne h2).trans h.heap
  obtain ⟨g1, g2⟩ := set_heap hfb 1 kv2
  have hmv : kv2.ownBlock = kv.ownBlock ∨ ∃ q, kv2.ownBlock = some q ∧ w.heap.size ≤ q := by
    rcases k.moved with hm | ⟨q, hm, hq⟩
    · rw [hm]; exact h.moved
    · exact .inr ⟨q, hm, Nat.le_trans h.turned.size hq⟩
  have hne2 : kv2.ownBlock ≠ some fb := by
    rcases hmv with hm | ⟨q, hm, hq⟩
    · rw [hm]; exact h1
    · rw [hm]; intro e; cases e; omega
  refine ⟨g1, ownsRow_of_heap k.owns fun j hj => g2 j (fun e => hne2 (e ▸ hj)), Turned.setCell (h.turned.trans k.turned fun j hj => ?_) (.inl rfl) _ _, hmv, hs⟩
  rcases hj with hj | hj
  · rcases h.moved with hm | ⟨q, hm, hq⟩
    · exact .inl (.inr (.inl (hm ▸ hj)))
    · rw [hm] at hj; cases hj; exact .inr hq
  · exact .inl (.inr (.inr hj))

theorem Settling.settled {lb : Option Nat} {w wr : World} {fb n : Nat} {sv kv kv1 lv : Value} {l1 : List Nat} {own : Own} (h : Settling lb w wr fb sv kv kv1 lv l1) (F : FileA) (h2 : RowV w own (.fseen n) sv F.seen) (h3 : RowV w own (.fkept n) kv F.kept) (hkf : kv.ownBlock ≠ some fb)
    (hr : own fb = some (.file n)) (here : ∀ k r, own k = some r → k < w.heap.size) (hlb : ∀ k r, own k = some r → lb ≠ some k) :
    ∃ own', FileIs (wr.setCell ⟨fb, 2, none⟩ (.slice none 0 0)) own' n fb { F with kept := l1, laid := [] } ∧ FileStep n lb own own' w (wr.setCell ⟨fb, 2, none⟩ (.slice none 0 0)) := by
  obtain ⟨g1, g2⟩ := set_heap h.heap 2 (.slice none 0 0)
  have hT := Turned.setCell h.turned (a := fb) (.inl rfl) 2 (.slice none 0 0)
  have hne : kv1.ownBlock ≠ some fb := by
    rcases h.moved with hm | ⟨q, hm, hq⟩
    · rw [hm]; exact hkf
    · rw [hm]; intro e; cases e; have := here fb _ hr; omega
  have hown : (wr.setCell ⟨fb, 2, none⟩ (.slice none 0 0)).ownsRow 0 5 1 kv1 l1.length (cellsOf l1) := ownsRow_of_heap h.owns fun j hj => g2 j (fun e => hne (e ▸ hj))
  obtain ⟨own', s1, s2, s3, s4⟩ := own_went here h3.role h.moved (w' := wr.setCell ⟨fb, 2, none⟩ (.slice none 0 0)) (fun k hk => by
    rcases hown.2 with ⟨e, _⟩ | ⟨g, c, cur, e, _, hg, _⟩
    · rw [e] at hk; cases hk
    · rw [e] at hk; cases hk; exact (Array.getElem?_eq_some_iff.1 hg).1)
  have keepS : ∀ k, sv.ownBlock = some k → (wr.setCell ⟨fb, 2, none⟩ (.slice none 0 0)).heap[k]? = w.heap[k]? := fun k hk => hT.block k (here k _ (h2.role k hk)) (by
    have hk' := h2.role k hk
    rintro (rfl | e | e)
    · rw [hr] at hk'; cases hk'
    · have := h3.role k e; rw [hk'] at this; cases this
    · exact hlb k _ hk' e)
  refine ⟨own', ⟨⟨sv, kv1, .slice none 0 0, [], by simpa using g1, ⟨ownsRow_of_heap h2.owns keepS, fun k hk => s2 k _ (h2.role k hk), h2.small⟩, ⟨hown, s3, h.small⟩, World.ownsRow_nil _ _ _ _, fun k hk => (by cases hk), rfl⟩, s2 fb _ hr, fun _ hl _ => third_cell g1 (by simp) hl⟩, ⟨hT.weaken ?_, s1, s2, ?_⟩⟩
  · rintro k (rfl | e | e)
    · exact .inl ⟨_, hr, .inl rfl⟩
    · exact .inl ⟨_, h3.role k e, .inr (.inr (.inl rfl))⟩
    · exact .inr e
  · intro k r hk
    rcases s4 k r hk with h' | ⟨h1', h2', rfl⟩
    · exact .inl h'
    · exact .inr ⟨h1', h2', .inl (.inr (.inr (.inl rfl)))⟩

set_option maxRecDepth 100000 in
theorem settleFile_any {fid : FuncId} {first : Array Value} {S : Nat → Prop} {lb : Option Nat} {I : Nat → World → Prop} {bit : Nat → Bool} (L : Lasts fid first S lb I bit)
    (own : Own) (n fb i : Nat) (F : FileA) (w : World) (hI : I i w) (h : FileIs w own n fb F)
    (here : ∀ k r, own k = some r → k < w.heap.size) (hS : ∀ k r, own k = some r → ¬ S k) (hl : F.laid.length ≤ 1000000) (hi : i + F.laid.length * 1048576 ≤ drawLim) :
    Calls Try.prog 33 #[.pointer (some ⟨fb, 0, none⟩), .func (.func fid) first #[]] w fun e w' => e = .returned (.tuple #[]) ∧
      I (redoOps bit F.laid i F.kept).2 w' ∧ ∃ own', FileIs w' own' n fb { F with kept := (redoOps bit F.laid i F.kept).1, laid := [] } ∧ FileStep n lb own own' w w' := by
  obtain ⟨⟨sv, kv, lv, cs, h1, h2, h3, h4, h5, h6⟩, hr⟩ := h
  obtain ⟨p, cap, rfl⟩ : ∃ p cap, lv = .slice p F.laid.length cap := by
    rcases h4.2 with ⟨h, h2⟩ | ⟨g, cap, _, h, _⟩
    · exact ⟨none, 0, by rw [h, h2]⟩
    · exact ⟨_, cap, h⟩
  have hlb : ∀ k r, own k = some r → lb ≠ some k := fun k r hk e => hS k r hk (L.own k e)
  have hfb := here fb _ hr
  have c2 : w.cell? ⟨fb, 2, none⟩ = some (.slice p F.laid.length cap) := cells_of h1 2
  have hkf : kv.ownBlock ≠ some fb := fun e => by have := h3.role fb e; rw [hr] at this; cases this
  have hst : Settling lb w w fb sv kv kv (.slice p F.laid.length cap) F.kept := ⟨h1, h3.owns, Turned.refl _ _, .inl rfl, h3.small⟩
  have keep : ∀ wr kv1 l1, Settling lb w wr fb sv kv kv1 (.slice p F.laid.length cap) l1 → ∀ k r, own k = some r → r ≠ .file n → r ≠ .fkept n → wr.heap[k]? = w.heap[k]? := fun wr kv1 l1 hs k r hk hr1 hr2 => hs.turned.block k (here k r hk) (by
    rintro (rfl | h | h)
    · rw [hr] at hk; cases hk; exact hr1 rfl
    · rw [h3.role k h] at hk; cases hk; exact hr2 rfl
    · exact hlb k r hk h)
  have spot : ∀ k, k < F.laid.length → ∃ g c o, p = some ⟨g, 0, none⟩ ∧ own g = some (.flaid n) ∧ w.cell? ⟨g, k, none⟩ = some c ∧ F.laid[k]? = some o ∧ OpV w own c o := fun k hk => by
    have ho : F.laid[k]? = some F.laid[k] := List.getElem?_eq_getElem hk
    obtain ⟨c, hc, hop⟩ := h6.get k _ ho
    rcases h4.2 with ⟨_, h⟩ | ⟨g, cap', cur, e, _⟩
    · omega
    · simp only [Value.slice.injEq, true_and] at e
      obtain ⟨rfl, rfl⟩ := e
      have := h4.cells (g := g) rfl k c hc
      rw [Addr.add_lit] at this
      exact ⟨g, c, _, rfl, h5 g rfl, by simpa using this, ho, hop⟩
  have hSl : ∀ q, S q → q < w.heap.size := fun q hq => L.here i w q hI hq
  have HSL := Lib.hid hSl; have HI := Lib.hid hI; have HST := Lib.hid hst; have KEEP := Lib.hid keep; have SPOT := Lib.hid spot; have HLB := Lib.hid hlb; have HFB := Lib.hid hfb; have HKF := Lib.hid hkf; have HERE := Lib.hid here; have HS := Lib.hid hS; have HR := Lib.hid hr
  have H2 := Lib.hid h2; have H3 := Lib.hid h3
  clear hSl hI hst keep spot hlb hfb hkf here hS hr h1 h2 h3 h4 h5 h6
  go_enter Try.func33, Try.ntmps33
  go_wp2
  go_loopw [11] (fun x wr => ∃ (k j : Nat) (kv1 : Value) (l1 : List Nat), x = .int .i64 k ∧ k ≤ F.laid.length ∧ j ≤ i + k * 1048576 ∧ I j wr ∧ Settling lb w wr fb sv kv kv1 (.slice p F.laid.length cap) l1 ∧ redoOps bit (F.laid.drop k) j l1 = redoOps bit F.laid i F.kept) (fun x _ => F.laid.length - (intOf x).toNat)
  case atStart => exact ⟨0, i, kv, F.kept, rfl, by omega, by omega, HI.out, HST.out, rfl⟩
  case round =>
    obtain ⟨k, j, kv1, l1, rfl, hk, hjk, hIr, hset, heq⟩ := hrel
    have HIR := Lib.hid hIr; have HSET := Lib.hid hset; have HE := Lib.hid heq
    clear hIr hset heq HI HST
    by_cases hlt : k < F.laid.length
    · obtain ⟨g, c, o, rfl, hg, hc, ho, hop⟩ := SPOT.out k hlt
      have hki : (k : Int) < F.laid.length := by omega
      have gk : wr.cell? ⟨g, k, none⟩ = some c := (World.cell?_of_block (KEEP.out wr _ _ HSET.out g _ hg (by simp) (by simp))).trans hc
      have g1 : wr.cell? ⟨fb, 1, none⟩ = some kv1 := cells_of HSET.out.heap 1
      have hop' : OpV wr own c o := hop.stay (R := (· = .ink)) ⟨fun _ _ h => h, fun q r hq hr => KEEP.out wr _ _ HSET.out q r hq (by rw [hr]; simp) (by rw [hr]; simp)⟩ rfl
      have hkv : ∀ q r, own q = some r → r ≠ .fkept n → kv1.ownBlock ≠ some q := fun q r hq hr => by
        rcases HSET.out.moved with hm | ⟨q', hm, hq'⟩
        · rw [hm]; intro e; have := H3.out.role q e; rw [hq] at this; cases this; exact hr rfl
        · rw [hm]; intro e; cases e; have := HERE.out q r hq; omega
      obtain ⟨gf, fs, rfl, hent, hcall⟩ := redo_any L own o c kv1 l1 j wr HIR.out HSET.out.owns hop' (fun q hq => ⟨hkv q _ hq (by simp), HS.out q _ hq⟩) (fun q hq hSq => by
        have := HSL.out q hSq
        rcases HSET.out.moved with hm | ⟨q', hm, hq'⟩
        · rw [hm] at hq; exact HS.out q _ (H3.out.role q hq) hSq
        · rw [hm] at hq; cases hq; omega) (by omega)
      have hat := redoOp_at (bit := bit) hop j l1
      have HAT := Lib.hid hat
      clear hat
      have HCALL := Lib.hid hcall
      have HOP := Lib.hid hop
      clear hcall hop hop' hkv hc hg
      have hdrop : F.laid.drop k = o :: F.laid.drop (k + 1) := by
        rw [List.drop_eq_getElem_cons hlt]
        congr 1
        rw [List.getElem?_eq_getElem hlt] at ho
        exact Option.some.inj ho
      have next : redoOps bit (F.laid.drop (k + 1)) (redoOp bit o j l1).2 (redoOp bit o j l1).1 = redoOps bit F.laid i F.kept := by
        rw [← HE.out, hdrop]; rfl
      have NEXT := Lib.hid next
      clear next hdrop ho
      go_wp2
      refine HCALL.out.mono ?_
      rintro e w2 ⟨kv2, rfl, hI2, hrt⟩
      have hne : kv1.ownBlock ≠ some fb := by
        rcases HSET.out.moved with hm | ⟨q, hm, hq⟩
        · rw [hm]; exact HKF.out
        · rw [hm]; intro e; cases e; have := HFB.out; omega
      have hfb2 : w2.heap[fb]? = some (.cells #[sv, kv1, .slice (some ⟨g, 0, none⟩) F.laid.length cap] 65 (0, 0)) := (hrt.keeps (Nat.lt_of_lt_of_le HFB.out HSET.out.turned.size) hne (HLB.out fb _ HR.out)).trans HSET.out.heap
      have g2 : w2.cell? ⟨fb, 1, none⟩ = some kv1 := cells_of hfb2 1
      have g3 : w2.frozen? ⟨fb, 1, none⟩ = false := free_of hfb2 1
      obtain ⟨g5, g6⟩ := set_heap hfb2 1 kv2
      have hI3 : I (redoOp bit o j l1).2 (w2.setCell ⟨fb, 1, none⟩ kv2) := L.stay _ w2 _ hI2 fun q hq => g6 q (by rintro rfl; exact HS.out _ _ HR.out hq)
      have hs3 : Settling lb w (w2.setCell ⟨fb, 1, none⟩ kv2) fb sv kv kv2 (.slice (some ⟨g, 0, none⟩) F.laid.length cap) (redoOp bit o j l1).1 := HSET.out.step hrt HKF.out (HLB.out fb _ HR.out) HFB.out (redoOp_small HOP.out HSET.out.small)
      obtain ⟨pk, ck, hkv2⟩ : ∃ p c, kv2 = .slice p (redoOp bit o j l1).1.length c := by
        rcases hrt.owns.2 with ⟨h, h2⟩ | ⟨g, cap, _, h, _⟩
        · exact ⟨none, 0, by rw [h, h2]⟩
        · exact ⟨_, cap, h⟩
      have HI3 := Lib.hid hI3; have HS3 := Lib.hid hs3
      clear hI3 hs3 g5 g6 hI2 hrt hfb2 hne
      subst hkv2
      go_wp2
      go_roundw
      case rel => exact ⟨k + 1, _, _, _, by go_num, by omega, by have := HAT.out; omega, HI3.out, HS3.out, NEXT.out⟩
      case measure => simp [intOf]; omega
    · obtain rfl : k = F.laid.length := by omega
      have heq : redoOps bit F.laid i F.kept = (l1, j) := by rw [← HE.out]; simp [redoOps]
      have g2 : wr.cell? ⟨fb, 2, none⟩ = some (.slice p F.laid.length cap) := cells_of HSET.out.heap 2
      have g3 : wr.frozen? ⟨fb, 2, none⟩ = false := free_of HSET.out.heap 2
      have fin := HSET.out.settled F H2.out H3.out HKF.out HR.out HERE.out HLB.out
      have hI3 : I j (wr.setCell ⟨fb, 2, none⟩ (.slice none 0 0)) := L.stay _ wr _ HIR.out fun q hq => (set_heap HSET.out.heap 2 _).2 q (by rintro rfl; exact HS.out _ _ HR.out hq)
      have FIN := Lib.hid fin; have HEQ := Lib.hid heq; have HI3 := Lib.hid hI3
      clear fin heq hI3
      go_wp2
      go_returns
      exact ⟨rfl, by rw [HEQ.out]; exact HI3.out, by rw [HEQ.out]; exact FIN.out⟩
end Go.Proofs.Ytobhhedggppneaa
