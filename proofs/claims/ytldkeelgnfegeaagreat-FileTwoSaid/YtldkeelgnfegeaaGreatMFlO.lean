/- A file among others of a disk: what operations make of it. -/
import Derived.Test.YtldkeelgnfegeaaGreatMFlM

namespace Go.Proofs.YtldkeelgnfegeaaGreat
open Go Go.RowKit Go.By

def Sk.put (S : Sk) (q : Nat) (F : FileA) : Sk := { S.tick with cont := fun k => if k = q then F else S.cont k, used := S.used + ((F.seen.length : Int) - ((S.cont q).seen.length : Int)) }
theorem sk_write {S : Sk} {s : ByteArray} {q : Nat} {K K0 : List Nat} {os : List ByteOp} (hq : Mp.get S.seen s = some q) (hF : S.cont q = ⟨K, K0, os⟩) (hs : mayName s = true) (hl : S.left ≠ 1) {off : Nat} (ho : off ≤ 16777216) {b : List Nat} (hb : b ≠ []) (hR : ((off + b.length : Nat) : Int) - K.length ≤ S.room - S.used) :
    S.write s off b = (S.put q ⟨nextK K off b, K0, os ++ [.write off b]⟩, 0) := by
  unfold Sk.write Sk.onFile
  rw [err_ok hl (by rw [num_may ho, hs]; rfl), if_neg (by decide), hq]
  dsimp only
  unfold Sk.writeAt
  have h1 : S.tick.cont q = ⟨K, K0, os⟩ := hF
  rw [if_neg hb, if_pos]
  · have hal : (⟨K, K0, os⟩ : FileA).alter (.write (off : Int).toNat b) = ⟨nextK K off b, K0, os ++ [.write off b]⟩ := rfl
    have hm : (⟨K, K0, os⟩ : FileA).more (.write (off : Int).toNat b) = ((nextK K off b).length : Int) - K.length := rfl
    unfold Sk.alterFile
    rw [h1, hal, hm]
    unfold Sk.put
    rw [hF]
    rfl
  · unfold Sk.hasRoom
    rw [h1, show S.tick.room = S.room from rfl, show S.tick.used = S.used from rfl, Bool.or_eq_true, decide_eq_true_eq, decide_eq_true_eq]
    dsimp only
    right; omega
theorem sk_size {S : Sk} {s : ByteArray} {q : Nat} {K K0 : List Nat} {os : List ByteOp} (hq : Mp.get S.seen s = some q) (hF : S.cont q = ⟨K, K0, os⟩) : S.size s = some K.length := by
  unfold Sk.size
  rw [hq, Option.map_some, hF]
theorem sk_end {S : Sk} {s : ByteArray} {q : Nat} {K K0 : List Nat} {os : List ByteOp} (hq : Mp.get S.seen s = some q) (hF : S.cont q = ⟨K, K0, os⟩) {E : Nat} (h : E = K.length) : endAt S s E = K.length := by
  unfold endAt
  rw [sk_size hq hF, h]; simp
theorem sk_read {S : Sk} {s : ByteArray} {q : Nat} {K K0 : List Nat} {os : List ByteOp} (hq : Mp.get S.seen s = some q) (hF : S.cont q = ⟨K, K0, os⟩) (hs : mayName s = true) (hl : S.left ≠ 1) {off n : Nat} (ho : off ≤ 16777216) (hn : n ≤ 16777216) (hon : off + n ≤ K.length) :
    S.read s off n = ((K.drop off).take n, 0) := by
  unfold Sk.read
  rw [err_ok hl (by rw [num_may ho, num_may hn, hs]; rfl), if_neg (by decide), hq]
  dsimp only
  rw [hF, if_neg (by dsimp only; omega)]
  simp
theorem sk_piece {S : Sk} {s : ByteArray} {q : Nat} {K K0 : List Nat} {os : List ByteOp} (hq : Mp.get S.seen s = some q) (hF : S.cont q = ⟨K, K0, os⟩) (hs : mayName s = true) (hl : S.left ≠ 1) {off : Nat} (ho : off ≤ K.length) (hK : K.length ≤ 16777216) :
    S.piece s off = ((K.drop off).take 4105, 0) := by
  have e : min (max (((S.size s).getD 0 : Nat) - (off : Int)) 0) 4105 = ((min (K.length - off) 4105 : Nat) : Int) := by
    rw [sk_size hq hF]
    simp only [Option.getD_some]
    omega
  unfold Sk.piece
  rw [e, sk_read hq hF hs hl (by omega) (by omega) (by omega)]
  rw [if_neg (show ¬ (0 : Int) = 1 by decide)]
  refine congrArg (·, (0 : Int)) ?_
  by_cases h : K.length - off ≤ 4105
  · rw [Nat.min_eq_left h, List.take_of_length_le (by simp), List.take_of_length_le (by simp; omega)]
  · rw [Nat.min_eq_right (by omega)]
theorem sk_record {S : Sk} {s : ByteArray} {q : Nat} {K K0 : List Nat} {os : List ByteOp} (hq : Mp.get S.seen s = some q) (hF : S.cont q = ⟨K, K0, os⟩) (hs : mayName s = true) (hl : S.left ≠ 1) {off E : Nat} (h256 : 256 ≤ off) (hK : K.length ≤ 16777216) {k : Nat} {b m : List Nat} (hk : k < 256) (hb : b.length ≤ 4096) (hbs : ∀ c ∈ b, c < 256) (hd : K.drop off = recOf k b ++ m) :
    readOut S s E off = (k, b, 0) ∧ readS S s E off = S.tick := by
  have hlen : off + (9 + b.length) ≤ K.length := by
    have h := congrArg List.length hd
    rw [List.length_drop, List.length_append, recOf_length] at h
    omega
  have hend : K.length ≤ endAt S s E := by
    unfold endAt
    rw [sk_size hq hF, Option.getD_some]
    omega
  have hn : ¬ ((off : Int) < 256 ∨ (endAt S s E : Int) ≤ off) := by omega
  unfold readOut readS
  rw [if_neg hn, if_neg hn, sk_piece hq hF hs hl (by omega) hK]
  dsimp only
  rw [if_neg (by simp), hd]
  have ht : (recOf k b ++ m).take 4105 = recOf k b ++ m.take (4105 - (recOf k b).length) := by
    rw [List.take_append, List.take_of_length_le (by rw [recOf_length]; omega)]
  rw [ht]
  obtain ⟨e1, e2, e3⟩ := tk_rec (m.take (4105 - (recOf k b).length)) hk hb hbs
  rw [e1, e2, e3]
  exact ⟨rfl, rfl⟩

theorem at_append {W w : World} {g a : Nat} {s : ByteArray} {S : Sk} {q : Nat} {A B C K0 : List Nat} {os : List ByteOp} {own : Own} (hD : Dsk W a S own w) (hf : Fil W g a s (256 + C.length) own w) (hFi : S.Fine) (hq : Mp.get S.seen s = some q) (hF : S.cont q = ⟨K3 A B C, K0, os⟩) (hs : mayName s = true) (hsz : s.size ≤ maxLen)
    (hl : S.left ≠ 1) (hA : A.length = 128) (hB : B.length = 128) (h16 : 256 + C.length ≤ 16777216) (hR : (4105 : Int) ≤ S.room - S.used) {k : Nat} (hk : k < 256) {bv : Value} {b : List Nat} (hb : Bytes w bv b) (hbl : b.length ≤ 4096) :
    Calls Tryz.prog 10 #[.pointer (some ⟨g, 0, none⟩), .int .u8 k, bv] w fun e w' => e = .returned (.tuple #[.int .i64 (256 + C.length : Nat), .int .i64 0]) ∧
      ∃ own', Moves g own own' w w' ∧ Dsk W a (S.put q ⟨K3 A B (C ++ recOf k b), K0, os ++ [.write (256 + C.length) (recOf k b)]⟩) own' w' ∧ Fil W g a s (256 + (C ++ recOf k b).length) own' w' := by
  have he : endAt S s (256 + C.length) = 256 + C.length := by
    rw [sk_end hq hF (K3_length hA hB).symm, K3_length hA hB]
  have e1 : appendAt S s (256 + C.length) k b = (S.put q ⟨K3 A B (C ++ recOf k b), K0, os ++ [.write (256 + C.length) (recOf k b)]⟩, 0) := by
    unfold appendAt
    rw [he, sk_write hq hF hs hl h16 (rec_ne k b) (by rw [recOf_length, K3_length hA hB]; omega), K3_append hA hB (rec_ne k b)]
  refine (append_any hD hf hFi hsz k hk hb hbl (by rw [he]; omega)).mono ?_
  rintro e w' ⟨rfl, own', hm, hd, hf'⟩
  rw [e1] at hd hf' ⊢
  rw [he] at hf' ⊢
  rw [if_pos rfl] at hf' ⊢
  refine ⟨rfl, own', hm, hd, ?_⟩
  rw [List.length_append, recOf_length]
  rw [Nat.add_assoc] at hf'
  exact hf'
theorem at_hold {W w : World} {g a : Nat} {s : ByteArray} {E : Nat} {S : Sk} {q : Nat} {A B C K0 : List Nat} {os : List ByteOp} {own : Own} (hD : Dsk W a S own w) (hf : Fil W g a s E own w) (hFi : S.Fine) (hq : Mp.get S.seen s = some q) (hF : S.cont q = ⟨K3 A B C, K0, os⟩) (hs : mayName s = true) (hsz : s.size ≤ maxLen)
    (hl : S.left ≠ 1) (hA : A.length = 128) (hB : B.length = 128) (hR : (256 : Int) ≤ S.room - S.used) {k : Nat} (hk : k < 18446744073709551616) {bv : Value} {b : List Nat} (hb : Bytes w bv b) (hbl : b.length ≤ 113) :
    Calls Tryz.prog 15 #[.pointer (some ⟨g, 0, none⟩), .int .u64 k, bv] w fun e w' => e = .returned (.int .i64 0) ∧
      ∃ own', Steps own own' w w' ∧ Dsk W a (S.put q ⟨K3 (if k % 2 = 0 then slotOf k b else A) (if k % 2 = 0 then B else slotOf k b) C, K0, os ++ [.write (k % 2 * 128) (slotOf k b)]⟩) own' w' ∧ Fil W g a s E own' w' := by
  have hl2 := slotOf_length (g := k) hbl
  have hne : slotOf k b ≠ [] := by intro e; rw [e] at hl2; cases hl2
  have e1 : holdAt S s k b = (S.put q ⟨K3 (if k % 2 = 0 then slotOf k b else A) (if k % 2 = 0 then B else slotOf k b) C, K0, os ++ [.write (k % 2 * 128) (slotOf k b)]⟩, 0) := by
    unfold holdAt
    rw [sk_write hq hF hs hl (by omega) hne (by rw [hl2, K3_length hA hB]; omega)]
    by_cases h : k % 2 = 0
    · rw [if_pos h, if_pos h, h, Nat.zero_mul, K3_zero hA hl2]
    · have h1 : k % 2 = 1 := by omega
      rw [if_neg h, if_neg h, h1, Nat.one_mul, K3_one hB hA hl2]
  refine (hold_any hD hf hFi hsz k hk hb hbl).mono ?_
  rintro e w' ⟨rfl, own', hm, hd, hf'⟩
  rw [e1] at hd ⊢
  exact ⟨rfl, own', hm, hd, hf'⟩
theorem at_read {W w : World} {g a : Nat} {s : ByteArray} {E : Nat} {S : Sk} {q : Nat} {K K0 : List Nat} {os : List ByteOp} {own : Own} (hD : Dsk W a S own w) (hf : Fil W g a s E own w) (hFi : S.Fine) (hq : Mp.get S.seen s = some q) (hF : S.cont q = ⟨K, K0, os⟩) (hs : mayName s = true) (hsz : s.size ≤ maxLen)
    (hl : S.left ≠ 1) (h16 : K.length ≤ 16777216) (hE : E ≤ 16777216) {off : Nat} (h256 : 256 ≤ off) {k : Nat} {b m : List Nat} (hk : k < 256) (hb : b.length ≤ 4096) (hbs : ∀ c ∈ b, c < 256) (hd : K.drop off = recOf k b ++ m) :
    Calls Tryz.prog 14 #[.pointer (some ⟨g, 0, none⟩), .int .i64 (off : Int)] w fun e w' => ∃ p c, e = .returned (.tuple #[.int .u8 k, .slice p b.length c, .int .i64 0]) ∧ Bytes w' (.slice p b.length c) b ∧ (∀ j, (Value.slice p b.length c).ownBlock = some j → w.heap.size ≤ j) ∧ Steps own own w w' ∧
      Dsk W a S.tick own w' ∧ Fil W g a s E own w' := by
  obtain ⟨e1, e2⟩ := sk_record (E := E) hq hF hs hl h256 h16 hk hb hbs hd
  have he : endAt S s E ≤ 1099511627776 := by
    unfold endAt
    rw [sk_size hq hF, Option.getD_some]
    omega
  have h := fileRead_any hD hf hFi hsz (off : Int) he
  rw [e1, e2] at h
  exact h
end Go.Proofs.YtldkeelgnfegeaaGreat

/- Two files of a disk. -/
namespace Go.Proofs.YtldkeelgnfegeaaGreat
open Go Go.RowKit Go.By

def upd {α : Type} (f : Nat → α) (q : Nat) (v : α) : Nat → α := fun k => if k = q then v else f k
theorem upd_same {α : Type} (f : Nat → α) (q : Nat) (v : α) : upd f q v q = v := if_pos rfl
theorem upd_other {α : Type} (f : Nat → α) {q k : Nat} (v : α) (h : k ≠ q) : upd f q v k = f k := if_neg h

theorem put_same (S : Sk) (q : Nat) (F : FileA) : (S.put q F).cont q = F := if_pos rfl
theorem put_other (S : Sk) (q : Nat) (F : FileA) {k : Nat} (h : k ≠ q) : (S.put q F).cont k = S.cont k := if_neg h

/-- Two files, of the numbers 1 and 2, in the blocks ga and gb. -/
structure DU (W : World) (a ga gb : Nat) (s1 s2 : ByteArray) (A B C : Nat → List Nat) (os : Nat → List ByteOp) (n : Nat) (S : Sk) (own : Own) (w : World) : Prop where
  disk : Dsk W a S own w
  fa : Fil W ga a s1 (256 + (C 1).length) own w
  fb : Fil W gb a s2 (256 + (C 2).length) own w
  ne : ga ≠ gb
  one : Mp.get S.seen s1 = some 1
  two : Mp.get S.seen s2 = some 2
  laid : S.laid.length ≤ 10
  left : S.left = 0
  room : S.room = 1048576
  made : S.made = 2
  ops : S.ops ≤ 4 + n
  used : S.used = 512 + (C 1).length + (C 2).length
  c1 : S.cont 1 = ⟨K3 (A 1) (B 1) (C 1), [], os 1⟩
  c2 : S.cont 2 = ⟨K3 (A 2) (B 2) (C 2), [], os 2⟩
  c0 : ∀ k, k ≠ 1 → k ≠ 2 → S.cont k = noFile
  lA : ∀ k, (A k).length = 128
  lB : ∀ k, (B k).length = 128
  los : ∀ k, (os k).length ≤ 1 + n
theorem DU.fine {W : World} {a ga gb : Nat} {s1 s2 : ByteArray} {A B C : Nat → List Nat} {os : Nat → List ByteOp} {n : Nat} {S : Sk} {own : Own} {w : World} (h : DU W a ga gb s1 s2 A B C os n S own w) (hn : n ≤ 1000) (h1 : (C 1).length ≤ 100000) (h2 : (C 2).length ≤ 100000) : S.Fine where
  ops := by have := h.ops; omega
  left := by have := h.left; omega
  made := by have := h.made; omega
  laid := by have := h.laid; omega
  few := fun k => by
    by_cases e1 : k = 1
    · subst e1; rw [h.c1]; have := h.los 1; show (os 1).length < _; omega
    · by_cases e2 : k = 2
      · subst e2; rw [h.c2]; have := h.los 2; show (os 2).length < _; omega
      · rw [h.c0 k e1 e2]; show 0 < _; omega
  short := fun k => by
    by_cases e1 : k = 1
    · subst e1; rw [h.c1]; show (K3 _ _ _).length ≤ _; rw [K3_length (h.lA 1) (h.lB 1)]; omega
    · by_cases e2 : k = 2
      · subst e2; rw [h.c2]; show (K3 _ _ _).length ≤ _; rw [K3_length (h.lA 2) (h.lB 2)]; omega
      · rw [h.c0 k e1 e2]; show 0 ≤ _; omega
  room := by have := h.room; omega
  used := by have := h.used; omega
/-- The first file is turned. -/
theorem DU.put1 {W : World} {a ga gb : Nat} {s1 s2 : ByteArray} {A B C : Nat → List Nat} {os : Nat → List ByteOp} {n : Nat} {S : Sk} {own own' : Own} {w w' : World} (h : DU W a ga gb s1 s2 A B C os n S own w) {A' B' C' : List Nat} {o : ByteOp} (hA : A'.length = 128) (hB : B'.length = 128)
    (hd : Dsk W a (S.put 1 ⟨K3 A' B' C', [], os 1 ++ [o]⟩) own' w') (hf : Fil W ga a s1 (256 + C'.length) own' w') (hm : Moves ga own own' w w') :
    DU W a ga gb s1 s2 (upd A 1 A') (upd B 1 B') (upd C 1 C') (upd os 1 (os 1 ++ [o])) (n + 1) (S.put 1 ⟨K3 A' B' C', [], os 1 ++ [o]⟩) own' w' where
  disk := hd
  fa := by rw [upd_same]; exact hf
  fb := by rw [upd_other _ _ (by decide)]; exact h.fb.move hm (fun e => h.ne e.symm)
  ne := h.ne
  one := h.one
  two := h.two
  laid := h.laid
  left := by show S.left - 1 = 0; rw [h.left]
  room := h.room
  made := h.made
  ops := by have := h.ops; show S.ops + 1 ≤ _; omega
  used := by
    show S.used + (((K3 A' B' C').length : Int) - ((S.cont 1).seen.length : Int)) = _
    rw [h.used, h.c1, upd_same, upd_other _ _ (by decide)]
    show _ + (((K3 A' B' C').length : Int) - ((K3 (A 1) (B 1) (C 1)).length : Int)) = _
    rw [K3_length hA hB, K3_length (h.lA 1) (h.lB 1)]; omega
  c1 := by rw [upd_same, upd_same, upd_same, upd_same]; exact put_same _ _ _
  c2 := by
    rw [upd_other _ _ (by decide), upd_other _ _ (by decide), upd_other _ _ (by decide), upd_other _ _ (by decide), ← h.c2]
    exact put_other _ _ _ (by decide)
  c0 := fun k h1 h2 => by rw [← h.c0 k h1 h2]; exact put_other _ _ _ h1
  lA := fun k => by unfold upd; split <;> first | exact hA | exact h.lA k
  lB := fun k => by unfold upd; split <;> first | exact hB | exact h.lB k
  los := fun k => by
    have := h.los k; have := h.los 1
    unfold upd; split
    · rw [List.length_append, List.length_singleton]; omega
    · omega
/-- The second one. -/
theorem DU.put2 {W : World} {a ga gb : Nat} {s1 s2 : ByteArray} {A B C : Nat → List Nat} {os : Nat → List ByteOp} {n : Nat} {S : Sk} {own own' : Own} {w w' : World} (h : DU W a ga gb s1 s2 A B C os n S own w) {A' B' C' : List Nat} {o : ByteOp} (hA : A'.length = 128) (hB : B'.length = 128)
    (hd : Dsk W a (S.put 2 ⟨K3 A' B' C', [], os 2 ++ [o]⟩) own' w') (hf : Fil W gb a s2 (256 + C'.length) own' w') (hm : Moves gb own own' w w') :
    DU W a ga gb s1 s2 (upd A 2 A') (upd B 2 B') (upd C 2 C') (upd os 2 (os 2 ++ [o])) (n + 1) (S.put 2 ⟨K3 A' B' C', [], os 2 ++ [o]⟩) own' w' where
  disk := hd
  fa := by rw [upd_other _ _ (by decide)]; exact h.fa.move hm h.ne
  fb := by rw [upd_same]; exact hf
  ne := h.ne
  one := h.one
  two := h.two
  laid := h.laid
  left := by show S.left - 1 = 0; rw [h.left]
  room := h.room
  made := h.made
  ops := by have := h.ops; show S.ops + 1 ≤ _; omega
  used := by
    show S.used + (((K3 A' B' C').length : Int) - ((S.cont 2).seen.length : Int)) = _
    rw [h.used, h.c2, upd_same, upd_other _ _ (by decide)]
    show _ + (((K3 A' B' C').length : Int) - ((K3 (A 2) (B 2) (C 2)).length : Int)) = _
    rw [K3_length hA hB, K3_length (h.lA 2) (h.lB 2)]; omega
  c1 := by
    rw [upd_other _ _ (by decide), upd_other _ _ (by decide), upd_other _ _ (by decide), upd_other _ _ (by decide), ← h.c1]
    exact put_other _ _ _ (by decide)
  c2 := by rw [upd_same, upd_same, upd_same, upd_same]; exact put_same _ _ _
  c0 := fun k h1 h2 => by rw [← h.c0 k h1 h2]; exact put_other _ _ _ h2
  lA := fun k => by unfold upd; split <;> first | exact hA | exact h.lA k
  lB := fun k => by unfold upd; split <;> first | exact hB | exact h.lB k
  los := fun k => by
    have := h.los k; have := h.los 2
    unfold upd; split
    · rw [List.length_append, List.length_singleton]; omega
    · omega
theorem DU.stay {W : World} {a ga gb : Nat} {s1 s2 : ByteArray} {A B C : Nat → List Nat} {os : Nat → List ByteOp} {n : Nat} {S : Sk} {own : Own} {w w' : World} (h : DU W a ga gb s1 s2 A B C os n S own w) (hb : Below w.heap.size w w') : DU W a ga gb s1 s2 A B C os n S own w' :=
  ⟨h.disk.stay hb, h.fa.stay hb, h.fb.stay hb, h.ne, h.one, h.two, h.laid, h.left, h.room, h.made, h.ops, h.used, h.c1, h.c2, h.c0, h.lA, h.lB, h.los⟩
theorem DU.grown {W : World} {a ga gb : Nat} {s1 s2 : ByteArray} {A B C : Nat → List Nat} {os : Nat → List ByteOp} {n : Nat} {S : Sk} {own : Own} {w w' : World} (h : DU W a ga gb s1 s2 A B C os n S own w) {r : Option Nat} (hg : w.grownBy w' r) (hr : ∀ k, r = some k → own k = none ∧ W.heap.size ≤ k ∧ k ≠ ga ∧ k ≠ gb) : DU W a ga gb s1 s2 A B C os n S own w' :=
  ⟨h.disk.grown hg fun k hk => ⟨(hr k hk).1, (hr k hk).2.1⟩, h.fa.grown hg fun e => (hr ga e).2.2.1 rfl, h.fb.grown hg fun e => (hr gb e).2.2.2 rfl, h.ne, h.one, h.two, h.laid, h.left, h.room, h.made, h.ops, h.used, h.c1, h.c2, h.c0, h.lA, h.lB, h.los⟩
/-- A reading of either. -/
theorem DU.tick {W : World} {a ga gb : Nat} {s1 s2 : ByteArray} {A B C : Nat → List Nat} {os : Nat → List ByteOp} {n : Nat} {S : Sk} {own : Own} {w w' : World} (h : DU W a ga gb s1 s2 A B C os n S own w) (hd : Dsk W a S.tick own w') (hs : Steps own own w w') : DU W a ga gb s1 s2 A B C os (n + 1) S.tick own w' :=
  ⟨hd, h.fa.steps hs, h.fb.steps hs, h.ne, h.one, h.two, h.laid, by show S.left - 1 = 0; rw [h.left], h.room, h.made, by have := h.ops; show S.ops + 1 ≤ _; omega, h.used, h.c1, h.c2, h.c0, h.lA, h.lB, fun k => by have := h.los k; omega⟩
end Go.Proofs.YtldkeelgnfegeaaGreat
