/- A disk with one file of slots and records: what operations make of it. Plain. -/
import Derived.Test.YtajfcnaifegonaaMFlF
import Derived.Test.YtajfcnaifegonaaMSyA
namespace Go.Proofs.Ytajfcnaifegonaa
open Go Go.RowKit Go.By
def noFile : FileA := ⟨[], [], []⟩
def oneF (s : ByteArray) (R : Int) (ops lf : Nat) (kp : List (ByteArray × Nat)) (ld : List NameOp) (K K0 : List Nat) (os : List ByteOp) : Sk :=
  ⟨R, K.length, ops, lf, 1, [(s, 1)], kp, ld, fun n => if n = 1 then ⟨K, K0, os⟩ else noFile⟩
theorem num_may {off : Nat} (h : off ≤ 16777216) : mayNumber (off : Int) = true := by unfold mayNumber; simp; omega
theorem err_ok {S : Sk} {m : Bool} (h : S.left ≠ 1) (hm : m = true) : S.err m = 0 := by
  unfold Sk.err
  rw [if_neg h, if_pos hm]
theorem err_io {S : Sk} {m : Bool} (h : S.left = 1) : S.err m = 5 := by
  unfold Sk.err
  rw [if_pos h]
theorem get_one (s : ByteArray) (n : Nat) : Mp.get [(s, n)] s = some n := by simp [Mp.get]
theorem oneF_fine {s : ByteArray} {R : Int} {ops lf : Nat} {kp : List (ByteArray × Nat)} {ld : List NameOp} {K K0 : List Nat} {os : List ByteOp} (ho : ops < 1000000) (hl : lf < 1000000) (hld : ld.length < 1000000) (hK : K.length ≤ 16777216) (hos : os.length < 1000000) (hR : 0 ≤ R ∧ R ≤ 1099511627776) : (oneF s R ops lf kp ld K K0 os).Fine where
  ops := by show ops < _; omega
  left := by show lf < _; omega
  made := by show 1 < _; omega
  laid := hld
  few := fun n => by
    show (if n = 1 then (⟨K, K0, os⟩ : FileA) else noFile).laid.length < _
    split
    · exact hos
    · show 0 < _; omega
  short := fun n => by
    show (if n = 1 then (⟨K, K0, os⟩ : FileA) else noFile).seen.length ≤ _
    split
    · show K.length ≤ _; omega
    · show 0 ≤ _; omega
  room := by show 0 ≤ R ∧ R ≤ _; omega
  used := by show 0 ≤ (K.length : Int) ∧ (K.length : Int) ≤ _; omega
def nextK (K : List Nat) (off : Nat) (b : List Nat) : List Nat := (redoWrite off b allBits b.length 0 0 K).1
theorem nextK_at (K : List Nat) (off : Nat) (b : List Nat) (k : Nat) : atB (nextK K off b) k = if off ≤ k ∧ k < off + b.length then atB b (k - off) else atB K k := by
  unfold nextK
  by_cases h : 0 < b.length
  · exact (redoWrite_all b.length 0 0 K (by omega) h).1 k
  · have : b = [] := List.length_eq_zero_iff.1 (by omega)
    subst this
    rw [if_neg (by simp)]; rfl
theorem nextK_length (K : List Nat) (off : Nat) {b : List Nat} (h : b ≠ []) : (nextK K off b).length = max K.length (off + b.length) := (redoWrite_all b.length 0 0 K (by omega) (List.length_pos_iff.2 h)).2
theorem ext_at {l m : List Nat} (h : l.length = m.length) (h2 : ∀ k, k < l.length → atB l k = atB m k) : l = m := by
  refine List.ext_getElem h fun k h1 h3 => ?_
  have := h2 k h1
  rw [atB_of h1, atB_of h3] at this
  exact this
theorem atB_left {l m : List Nat} {k : Nat} (h : k < l.length) : atB (l ++ m) k = atB l k := by
  rw [atB_getD, atB_getD, List.getElem?_append_left h]
theorem atB_right {l m : List Nat} {k : Nat} (h : l.length ≤ k) : atB (l ++ m) k = atB m (k - l.length) := by
  rw [atB_getD, atB_getD, List.getElem?_append_right h]
theorem nextK_mid {A X Y C : List Nat} (hX : X ≠ []) (h : Y.length = X.length) : nextK (A ++ (Y ++ C)) A.length X = A ++ (X ++ C) := by
  have hp := List.length_pos_iff.2 hX
  refine ext_at ?_ fun k hk => ?_
  · rw [nextK_length _ _ hX]; simp; omega
  · rw [nextK_at]
    split
    · rename_i h1
      rw [atB_right (by omega), atB_left (by omega)]
    · rename_i h1
      by_cases h2 : k < A.length
      · rw [atB_left h2, atB_left h2]
      · rw [atB_right (by omega), atB_right (by omega), atB_right (by omega), atB_right (by omega), h]
theorem nextK_end {A X : List Nat} (hX : X ≠ []) : nextK A A.length X = A ++ X := by
  refine ext_at ?_ fun k hk => ?_
  · rw [nextK_length _ _ hX]; simp
  · rw [nextK_at]
    split
    · rename_i h1
      rw [atB_right (by omega)]
    · rename_i h1
      rw [nextK_length _ _ hX] at hk
      rw [atB_left (by omega)]
theorem oneF_write {s : ByteArray} {R : Int} {ops lf : Nat} {kp : List (ByteArray × Nat)} {ld : List NameOp} {K K0 : List Nat} {os : List ByteOp} (hs : mayName s = true) (hl : lf ≠ 1) {off : Nat} (ho : off ≤ 16777216) {b : List Nat} (hb : b ≠ []) (hR : ((off + b.length : Nat) : Int) ≤ R) :
    (oneF s R ops lf kp ld K K0 os).write s off b = (oneF s R (ops + 1) (lf - 1) kp ld (nextK K off b) K0 (os ++ [.write off b]), 0) := by
  unfold Sk.write Sk.onFile
  rw [err_ok hl (by rw [num_may ho, hs]; rfl), if_neg (by decide)]
  have hg : Mp.get (oneF s R ops lf kp ld K K0 os).seen s = some 1 := get_one s 1
  rw [hg]
  dsimp only
  unfold Sk.writeAt
  rw [if_neg hb, if_pos]
  · have h1 : (oneF s R ops lf kp ld K K0 os).tick.cont 1 = ⟨K, K0, os⟩ := rfl
    have hal : (⟨K, K0, os⟩ : FileA).alter (.write (off : Int).toNat b) = ⟨nextK K off b, K0, os ++ [.write off b]⟩ := rfl
    unfold Sk.alterFile
    rw [h1, hal]
    have hm : (⟨K, K0, os⟩ : FileA).more (.write (off : Int).toNat b) = ((nextK K off b).length : Int) - K.length := rfl
    rw [hm]
    have hu : (oneF s R ops lf kp ld K K0 os).tick.used + (((nextK K off b).length : Int) - K.length) = (nextK K off b).length := by
      show (K.length : Int) + (((nextK K off b).length : Int) - K.length) = _
      omega
    rw [hu]
    refine congrArg (·, (0 : Int)) ?_
    unfold oneF Sk.tick Sk.withFile
    refine congrArg (Sk.mk _ _ _ _ _ _ _ _) ?_
    funext n
    dsimp only
    by_cases e : n = 1
    · rw [if_pos e, if_pos e]
    · rw [if_neg e, if_neg e, if_neg e]
  · unfold Sk.hasRoom
    have h1 : (oneF s R ops lf kp ld K K0 os).tick.cont 1 = ⟨K, K0, os⟩ := rfl
    rw [h1]
    have h2 : (oneF s R ops lf kp ld K K0 os).tick.room = R := rfl
    have h3 : (oneF s R ops lf kp ld K K0 os).tick.used = K.length := rfl
    rw [h2, h3, Bool.or_eq_true, decide_eq_true_eq, decide_eq_true_eq]
    dsimp only
    right; omega
theorem oneF_write_io {s : ByteArray} {R : Int} {ops : Nat} {kp : List (ByteArray × Nat)} {ld : List NameOp} {K K0 : List Nat} {os : List ByteOp} {off : Int} {b : List Nat} :
    (oneF s R ops 1 kp ld K K0 os).write s off b = (oneF s R (ops + 1) 0 kp ld K K0 os, 5) := by
  unfold Sk.write Sk.onFile
  rw [err_io (show (oneF s R ops 1 kp ld K K0 os).left = 1 from rfl), if_pos (by decide)]
  rfl
theorem oneF_size (s : ByteArray) (R : Int) (ops lf : Nat) (kp : List (ByteArray × Nat)) (ld : List NameOp) (K K0 : List Nat) (os : List ByteOp) : (oneF s R ops lf kp ld K K0 os).size s = some K.length := by
  unfold Sk.size
  rw [show (oneF s R ops lf kp ld K K0 os).seen = [(s, 1)] from rfl, get_one]
  rfl
theorem oneF_end {s : ByteArray} {R : Int} {ops lf : Nat} {kp : List (ByteArray × Nat)} {ld : List NameOp} {K K0 : List Nat} {os : List ByteOp} {E : Nat} (h : E = K.length) : endAt (oneF s R ops lf kp ld K K0 os) s E = K.length := by
  unfold endAt
  rw [oneF_size, h]; simp
theorem oneF_read {s : ByteArray} {R : Int} {ops lf : Nat} {kp : List (ByteArray × Nat)} {ld : List NameOp} {K K0 : List Nat} {os : List ByteOp} (hs : mayName s = true) (hl : lf ≠ 1) {off n : Nat} (ho : off ≤ 16777216) (hn : n ≤ 16777216) (hon : off + n ≤ K.length) :
    (oneF s R ops lf kp ld K K0 os).read s off n = ((K.drop off).take n, 0) := by
  unfold Sk.read
  rw [err_ok hl (by rw [num_may ho, num_may hn, hs]; rfl), if_neg (by decide)]
  rw [show (oneF s R ops lf kp ld K K0 os).seen = [(s, 1)] from rfl, get_one]
  dsimp only
  rw [show (oneF s R ops lf kp ld K K0 os).cont 1 = ⟨K, K0, os⟩ from rfl, if_neg (by dsimp only; omega)]
  simp
theorem redoWrite_ix (off : Nat) (b : List Nat) : ∀ (fuel at_ i j : Nat) (l : List Nat), (redoWrite off b allBits fuel at_ i l).1 = (redoWrite off b allBits fuel at_ j l).1
  | 0, _, _, _, _ => rfl
  | fuel + 1, at_, i, j, l => by
    unfold redoWrite
    split
    · exact redoWrite_ix off b fuel _ (i + 1) (j + 1) _
    · rfl
def Redone (K K0 : List Nat) (os : List ByteOp) : Prop := K = (redoOps allBits os 0 K0).1
theorem Redone.next {K K0 : List Nat} {os : List ByteOp} (h : Redone K K0 os) (off : Nat) (b : List Nat) : Redone (nextK K off b) K0 (os ++ [.write off b]) := by
  unfold Redone at h ⊢
  rw [redoOps_append]
  show nextK K off b = (redoWrite off b allBits b.length 0 _ (redoOps allBits os 0 K0).1).1
  rw [← h]
  exact redoWrite_ix _ _ _ _ _ _ _
def noughts256 : List Nat := List.replicate 256 0
theorem noughts256_length : noughts256.length = 256 := List.length_replicate
theorem oneF_made {s : ByteArray} {R : Int} (hs : mayName s = true) (hR : 256 ≤ R) :
    (DiskA.new R).sk.create s = (oneF s R 1 0 [] [.create s 1] [] [] [], 0) ∧ (DiskA.new R).sk.made2 s = (oneF s R 2 0 [] [.create s 1] noughts256 [] [.cut 256], 0) := by
  have hr : (DiskA.new R).room = R := by unfold DiskA.new; dsimp only; rw [if_neg (by omega)]
  have h1 : (DiskA.new R).sk.create s = (oneF s R 1 0 [] [.create s 1] [] [] [], 0) := by
    unfold Sk.create
    rw [err_ok (show (DiskA.new R).sk.left ≠ 1 from (show (0 : Nat) ≠ 1 by decide)) hs, if_neg (by decide), if_neg (show ¬ (Mp.get (DiskA.new R).sk.seen s).isSome = true from (show ¬ (none : Option Nat).isSome = true by decide))]
    refine congrArg (·, (0 : Int)) ?_
    unfold oneF Sk.tick Sk.withFile DiskA.sk
    rw [hr]
    rfl
  refine ⟨h1, ?_⟩
  unfold Sk.made2
  rw [h1]
  dsimp only
  unfold Sk.truncate Sk.onFile
  rw [err_ok (show (oneF s R 1 0 [] [.create s 1] [] [] []).left ≠ 1 from (show (0 : Nat) ≠ 1 by decide)) (by rw [show (256 : Int) = ((256 : Nat) : Int) from rfl, num_may (by omega), hs]; rfl), if_neg (by decide)]
  rw [show (oneF s R 1 0 [] [.create s 1] [] [] []).seen = [(s, 1)] from rfl, get_one]
  dsimp only
  unfold Sk.cutAt
  rw [if_pos]
  · refine congrArg (·, (0 : Int)) ?_
    have h2 : (oneF s R 1 0 [] [.create s 1] [] [] []).tick.cont 1 = ⟨[], [], []⟩ := rfl
    have hal : (⟨[], [], []⟩ : FileA).alter (.cut (256 : Int).toNat) = ⟨noughts256, [], [.cut 256]⟩ := rfl
    have hm : (⟨[], [], []⟩ : FileA).more (.cut (256 : Int).toNat) = 256 := by
      unfold FileA.more
      rw [hal]
      show ((noughts256.length : Int)) - 0 = 256
      rw [noughts256_length]; rfl
    unfold Sk.alterFile
    rw [h2, hal, hm]
    unfold oneF Sk.tick Sk.withFile
    rw [noughts256_length]
    refine congrArg (Sk.mk _ _ _ _ _ _ _ _) ?_
    funext n
    dsimp only
    by_cases e : n = 1
    · rw [if_pos e, if_pos e]
    · rw [if_neg e, if_neg e, if_neg e]
  · unfold Sk.hasRoom
    rw [show (oneF s R 1 0 [] [.create s 1] [] [] []).tick.cont 1 = ⟨[], [], []⟩ from rfl, show (oneF s R 1 0 [] [.create s 1] [] [] []).tick.room = R from rfl, show (oneF s R 1 0 [] [.create s 1] [] [] []).tick.used = 0 from rfl]
    rw [Bool.or_eq_true, decide_eq_true_eq, decide_eq_true_eq]
    right
    show (256 : Int) - 0 ≤ R - 0
    omega
theorem Redone.new : Redone noughts256 [] [.cut 256] := rfl
end Go.Proofs.Ytajfcnaifegonaa
/- A disk with one file: its steps. -/
namespace Go.Proofs.Ytajfcnaifegonaa
open Go Go.RowKit Go.By
def tT : ByteArray := ⟨#[116]⟩
theorem tT_may : mayName tT = true := by decide +kernel
theorem new_fine {R : Int} (hR : 0 ≤ R ∧ R ≤ 1099511627776) : (DiskA.new R).sk.Fine where
  ops := by show 0 < _; omega
  left := by show 0 < _; omega
  made := by show 0 < _; omega
  laid := by show 0 < _; omega
  few := fun n => by show 0 < _; omega
  short := fun n => Nat.zero_le _
  room := by
    show 0 ≤ (DiskA.new R).room ∧ (DiskA.new R).room ≤ _
    unfold DiskA.new; dsimp only
    split <;> omega
  used := by show 0 ≤ (0 : Int) ∧ (0 : Int) ≤ _; omega
theorem new_file (s : ByteArray) (hs : mayName s = true) (hsz : s.size ≤ maxLen) (R : Int) (hR : 256 ≤ R ∧ R ≤ 1099511627776) {W w : World} {a : Nat} {own : Own} (hD : Dsk W a (DiskA.new R).sk own w) :
    Calls Try.prog 16 #[.pointer (some ⟨a, 0, none⟩), .string s] w fun e w' => ∃ g own', w.heap.size ≤ g ∧ e = .returned (.tuple #[.pointer (some ⟨g, 0, none⟩), .int .i64 0]) ∧ Steps own own' w w' ∧ Dsk W a (oneF s R 2 0 [] [.create s 1] noughts256 [] [.cut 256]) own' w' ∧ Fil W g a s 256 own' w' := by
  obtain ⟨e1, e2⟩ := oneF_made hs hR.1
  have f1 : ((DiskA.new R).sk.create s).1.Fine := by rw [e1]; exact oneF_fine (by omega) (by omega) (Nat.lt_of_le_of_lt (Nat.le_refl 1) (by omega)) (by decide) (by decide) (by omega)
  have f2 : ((DiskA.new R).sk.made2 s).1.Fine := by rw [e2]; exact oneF_fine (by omega) (by omega) (Nat.lt_of_le_of_lt (Nat.le_refl 1) (by omega)) (by rw [noughts256_length]; omega) (by decide) (by omega)
  refine (fileCreate_any hD (new_fine (by omega)) s (fun _ => ⟨f1, f2⟩) hsz).mono ?_
  rintro e w' ⟨own', hst, hc⟩
  rw [e1, e2] at hc
  rcases hc with ⟨h1, _⟩ | ⟨_, h1, _⟩ | ⟨_, _, g, hg, rfl, hd, hf⟩
  · exact absurd rfl h1
  · exact absurd rfl h1
  · exact ⟨g, own', hg, rfl, hst, hd, hf⟩
def K3 (A B C : List Nat) : List Nat := A ++ (B ++ C)
def zero128 : List Nat := List.replicate 128 0
theorem zero128_length : zero128.length = 128 := List.length_replicate
theorem noughts_K3 : noughts256 = K3 zero128 zero128 [] := by
  unfold noughts256 K3 zero128
  rw [List.append_nil, List.replicate_append_replicate]
theorem K3_length {A B C : List Nat} (hA : A.length = 128) (hB : B.length = 128) : (K3 A B C).length = 256 + C.length := by simp [K3, hA, hB]; omega
theorem K3_append {A B C X : List Nat} (hA : A.length = 128) (hB : B.length = 128) (hX : X ≠ []) : nextK (K3 A B C) (256 + C.length) X = K3 A B (C ++ X) := by
  rw [← K3_length hA hB (C := C), nextK_end hX]
  simp [K3]
theorem K3_one {A B C X : List Nat} (hB : B.length = 128) (hA : A.length = 128) (hX : X.length = 128) : nextK (K3 A B C) 128 X = K3 A X C := by
  have h : X ≠ [] := by intro e; rw [e] at hX; cases hX
  have := nextK_mid (A := A) (X := X) (Y := B) (C := C) h (by omega)
  rw [hA] at this
  exact this
theorem K3_zero {A B C X : List Nat} (hA : A.length = 128) (hX : X.length = 128) : nextK (K3 A B C) 0 X = K3 X B C := by
  have h : X ≠ [] := by intro e; rw [e] at hX; cases hX
  exact nextK_mid (A := []) (X := X) (Y := A) (C := B ++ C) h (by omega)
theorem Moves.below {g : Nat} {own own' : Own} {W w w' : World} (h : Moves g own own' w w') (hb : Below W.heap.size W w) (far : ∀ k r, own k = some r → W.heap.size ≤ k) (hg : W.heap.size ≤ g) : Below W.heap.size W w' :=
  ⟨h.os.trans hb.os, h.tape.trans hb.tape, h.output.trans hb.output, Nat.le_trans hb.size h.size, fun k hk => (h.block k (Nat.lt_of_lt_of_le hk hb.size) (by omega) (.inl (by
    cases e : own k with
    | none => rfl
    | some r => have := far k r e; omega))).trans (hb.block k hk)⟩
theorem oneF_append {s : ByteArray} {R : Int} {ops lf : Nat} {kp : List (ByteArray × Nat)} {ld : List NameOp} {A B C K0 : List Nat} {os : List ByteOp} (hs : mayName s = true) (hl : lf ≠ 1) (hA : A.length = 128) (hB : B.length = 128) (k : Nat) (b : List Nat) (hR : ((256 + C.length + (9 + b.length) : Nat) : Int) ≤ R) (h16 : 256 + C.length ≤ 16777216) :
    appendAt (oneF s R ops lf kp ld (K3 A B C) K0 os) s (256 + C.length) k b = (oneF s R (ops + 1) (lf - 1) kp ld (K3 A B (C ++ recOf k b)) K0 (os ++ [.write (256 + C.length) (recOf k b)]), 0) ∧ endAt (oneF s R ops lf kp ld (K3 A B C) K0 os) s (256 + C.length) = 256 + C.length := by
  have he : endAt (oneF s R ops lf kp ld (K3 A B C) K0 os) s (256 + C.length) = 256 + C.length := by
    rw [oneF_end (K3_length hA hB).symm, K3_length hA hB]
  have hne : recOf k b ≠ [] := by
    intro e
    have := recOf_length k b
    rw [e] at this; simp at this; omega
  refine ⟨?_, he⟩
  unfold appendAt
  rw [he, oneF_write hs hl h16 hne (by rw [recOf_length]; exact hR), K3_append hA hB hne]
theorem one_append {W w : World} {g a : Nat} {s : ByteArray} {R : Int} {ops lf : Nat} {kp : List (ByteArray × Nat)} {ld : List NameOp} {A B C K0 : List Nat} {os : List ByteOp} {own : Own} (hD : Dsk W a (oneF s R ops lf kp ld (K3 A B C) K0 os) own w) (hf : Fil W g a s (256 + C.length) own w) (hs : mayName s = true) (hsz : s.size ≤ maxLen)
    (hl : lf ≠ 1) (hA : A.length = 128) (hB : B.length = 128) (hR : ((256 + C.length + 4105 : Nat) : Int) ≤ R ∧ R ≤ 1099511627776) (h16 : 256 + C.length ≤ 16777216) (hops : ops < 1000000 ∧ lf < 1000000 ∧ ld.length < 1000000 ∧ os.length < 1000000) {k : Nat} (hk : k < 256) {bv : Value} {b : List Nat} (hb : Bytes w bv b) (hbl : b.length ≤ 4096) :
    Calls Try.prog 18 #[.pointer (some ⟨g, 0, none⟩), .int .u8 k, bv] w fun e w' => e = .returned (.tuple #[.int .i64 (256 + C.length : Nat), .int .i64 0]) ∧
      ∃ own', Moves g own own' w w' ∧ Dsk W a (oneF s R (ops + 1) (lf - 1) kp ld (K3 A B (C ++ recOf k b)) K0 (os ++ [.write (256 + C.length) (recOf k b)])) own' w' ∧ Fil W g a s (256 + (C ++ recOf k b).length) own' w' := by
  obtain ⟨e1, e2⟩ := oneF_append (s := s) (R := R) (ops := ops) (lf := lf) (kp := kp) (ld := ld) (K0 := K0) (os := os) hs hl hA hB k b (by omega) h16
  refine (append_any hD hf (oneF_fine hops.1 hops.2.1 hops.2.2.1 (by rw [K3_length hA hB]; exact h16) hops.2.2.2 (by omega)) hsz k hk hb hbl (by rw [e2]; omega)).mono ?_
  rintro e w' ⟨rfl, own', hm, hd, hf'⟩
  rw [e1] at hd hf' ⊢
  rw [e2] at hf' ⊢
  rw [if_pos rfl] at hf' ⊢
  refine ⟨rfl, own', hm, hd, ?_⟩
  rw [List.length_append, recOf_length]
  rw [Nat.add_assoc] at hf'
  exact hf'
theorem one_append_io {W w : World} {g a : Nat} {s : ByteArray} {R : Int} {ops : Nat} {kp : List (ByteArray × Nat)} {ld : List NameOp} {A B C K0 : List Nat} {os : List ByteOp} {own : Own} (hD : Dsk W a (oneF s R ops 1 kp ld (K3 A B C) K0 os) own w) (hf : Fil W g a s (256 + C.length) own w) (hsz : s.size ≤ maxLen)
    (hA : A.length = 128) (hB : B.length = 128) (hR : 0 ≤ R ∧ R ≤ 1099511627776) (h16 : 256 + C.length ≤ 16777216) (hops : ops < 1000000 ∧ ld.length < 1000000 ∧ os.length < 1000000) {k : Nat} (hk : k < 256) {bv : Value} {b : List Nat} (hb : Bytes w bv b) (hbl : b.length ≤ 4096) :
    Calls Try.prog 18 #[.pointer (some ⟨g, 0, none⟩), .int .u8 k, bv] w fun e w' => e = .returned (.tuple #[.int .i64 0, .int .i64 5]) ∧
      ∃ own', Moves g own own' w w' ∧ Dsk W a (oneF s R (ops + 1) 0 kp ld (K3 A B C) K0 os) own' w' ∧ Fil W g a s (256 + C.length) own' w' := by
  have e2 : endAt (oneF s R ops 1 kp ld (K3 A B C) K0 os) s (256 + C.length) = 256 + C.length := by
    rw [oneF_end (K3_length hA hB).symm, K3_length hA hB]
  have e1 : appendAt (oneF s R ops 1 kp ld (K3 A B C) K0 os) s (256 + C.length) k b = (oneF s R (ops + 1) 0 kp ld (K3 A B C) K0 os, 5) := oneF_write_io
  refine (append_any hD hf (oneF_fine hops.1 (by omega) hops.2.1 (by rw [K3_length hA hB]; exact h16) hops.2.2 (by omega)) hsz k hk hb hbl (by rw [e2]; omega)).mono ?_
  rintro e w' ⟨rfl, own', hm, hd, hf'⟩
  rw [e1] at hd hf' ⊢
  rw [if_neg (show ¬ (5 : Int) = 0 by decide)] at hf' ⊢
  exact ⟨rfl, own', hm, hd, hf'⟩
theorem rec_ne (k : Nat) (b : List Nat) : recOf k b ≠ [] := by
  intro e
  have := recOf_length k b
  rw [e] at this; simp at this; omega
theorem Redone.append {A B C K0 : List Nat} {os : List ByteOp} (h : Redone (K3 A B C) K0 os) (hA : A.length = 128) (hB : B.length = 128) (k : Nat) (b : List Nat) : Redone (K3 A B (C ++ recOf k b)) K0 (os ++ [.write (256 + C.length) (recOf k b)]) := by
  have := h.next (256 + C.length) (recOf k b)
  rw [K3_append hA hB (rec_ne k b)] at this
  exact this
theorem Redone.hold {A B C K0 : List Nat} {os : List ByteOp} (h : Redone (K3 A B C) K0 os) (hA : A.length = 128) (hB : B.length = 128) (k : Nat) {b : List Nat} (hb : b.length ≤ 113) :
    Redone (K3 (if k % 2 = 0 then slotOf k b else A) (if k % 2 = 0 then B else slotOf k b) C) K0 (os ++ [.write (k % 2 * 128) (slotOf k b)]) := by
  have hl2 := slotOf_length (g := k) hb
  have := h.next (k % 2 * 128) (slotOf k b)
  by_cases h0 : k % 2 = 0
  · rw [if_pos h0, if_pos h0]
    rw [h0, Nat.zero_mul, K3_zero hA hl2] at this
    rw [h0, Nat.zero_mul]
    exact this
  · have h1 : k % 2 = 1 := by omega
    rw [if_neg h0, if_neg h0]
    rw [h1, Nat.one_mul, K3_one hB hA hl2] at this
    rw [h1, Nat.one_mul]
    exact this
end Go.Proofs.Ytajfcnaifegonaa
/- A file that is none, a disk that is none: what they tell. -/
namespace Go.Proofs.Ytajfcnaifegonaa
open Go Go.RowKit Go.By
set_option maxRecDepth 100000 in
theorem end_nil (w : World) : Calls Try.prog 32 #[.pointer none] w fun e w' => e = .returned (.int .i64 0) ∧ w = w' := by
  go_enter Try.func32, Try.ntmps32
  go_wp2_with (go_at_call 58; refine (isNone_nil _).mono ?_; rintro e w1 ⟨rfl, rfl⟩)
  go_ret
  exact ⟨rfl, rfl⟩
set_option maxRecDepth 100000 in
theorem lay_nil (off : Int) (v : Value) (w : World) : Calls Try.prog 33 #[.pointer none, .int .i64 off, v] w fun e w' => e = .returned (.tuple #[.int .i64 0, .int .i64 1]) ∧ w = w' := by
  go_enter Try.func33, Try.ntmps33
  go_wp2_with (go_at_call 58; refine (isNone_nil _).mono ?_; rintro e w1 ⟨rfl, rfl⟩)
  go_ret2
  exact ⟨rfl, rfl⟩
set_option maxRecDepth 100000 in
theorem append_nil (k : Int) (w : World) : Calls Try.prog 18 #[.pointer none, .int .u8 k, .slice none 0 0] w fun e w' => e = .returned (.tuple #[.int .i64 0, .int .i64 1]) ∧ w = w' := by
  go_enter Try.func18, Try.ntmps18
  go_wp2_with fail
  refine (end_nil w).mono ?_
  rintro e w1 ⟨rfl, rfl⟩
  go_wp2_with fail
  refine (lay_nil _ _ w).mono ?_
  rintro e w1 ⟨rfl, rfl⟩
  go_wp2
  go_ret2
  exact ⟨rfl, rfl⟩
end Go.Proofs.Ytajfcnaifegonaa
