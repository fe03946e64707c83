/- Trees in a program: a file of which one reads; what is read. -/
import Derived.Test.YtdbgihpognfhdaaGreatMTrX
import Derived.Test.YtdbgihpognfhdaaGreatMTrW
import Derived.Test.YtdbgihpognfhdaaGreatMFlG
namespace Go.By
open Go Go.RowKit
theorem pc_take' {l : List Nat} {i n m : Nat} (h : i + n ≤ m) : pc (l.take m) i n = pc l i n := by
  unfold pc
  rw [List.drop_take, List.take_take, Nat.min_eq_left (by omega)]
theorem atB_takeT {l : List Nat} {i m : Nat} (h : i < m) : atB (l.take m) i = atB l i := by
  unfold atB
  rw [List.getD_eq_getElem?_getD, List.getD_eq_getElem?_getD, List.getElem?_take_of_lt h]
theorem bodyLen_take (l : List Nat) {m : Nat} (h : 4 ≤ m) : bodyLen (l.take m) = bodyLen l := by
  unfold bodyLen
  rw [pc_take' (by omega)]
theorem isRec_take (l : List Nat) : isRec (l.take 4105) = isRec l := by
  have e0 := bodyLen_take l (m := 4105) (by decide)
  unfold isRec partOk
  rw [e0, List.length_take]
  by_cases h : bodyLen l ≤ 4096
  · have e1 : pc (l.take 4105) (5 + bodyLen l) 4 = pc l (5 + bodyLen l) 4 := pc_take' (by omega)
    have e2 : (l.take 4105).take (5 + bodyLen l) = l.take (5 + bodyLen l) := by rw [List.take_take, Nat.min_eq_left (by omega)]
    rw [e1, e2]
    have d1 : decide (4 ≤ min 4105 l.length) = decide (4 ≤ l.length) := by rw [decide_eq_decide]; omega
    have d2 : decide (5 ≤ min 4105 l.length) = decide (5 ≤ l.length) := by rw [decide_eq_decide]; omega
    have d3 : decide (5 + bodyLen l ≤ min 4105 l.length) = decide (5 + bodyLen l ≤ l.length) := by rw [decide_eq_decide]; omega
    have d4 : decide (9 + bodyLen l ≤ min 4105 l.length) = decide (9 + bodyLen l ≤ l.length) := by rw [decide_eq_decide]; omega
    rw [d1, d2, d3, d4]
  · rw [decide_eq_false h]
    simp
def rdAt (K : List Nat) (off : Int) : Nat × List Nat × Nat :=
  if off < 256 ∨ (K.length : Int) ≤ off then (0, [], 2) else if isRec (K.drop off.toNat) = true then (atB (K.drop off.toNat) 4, pc (K.drop off.toNat) 5 (bodyLen (K.drop off.toNat)), 0) else (0, [], 2)
def nodeBy (x : Nat × List Nat × Nat) (ct : Nat) : Option Nd :=
  if x.2.2 = 0 ∧ x.1 = 2 then
    match takeNd x.2.1 with
    | none => none
    | some n => if cntN n = ct then some n else none
  else none
theorem nodeIn_rd (K : List Nat) (off : Int) (ct : Nat) : nodeIn K off ct = nodeBy (rdAt K off) ct := by
  unfold nodeIn nodeBy rdAt nodeOf
  by_cases h1 : off < 256 ∨ (K.length : Int) ≤ off
  · rw [if_pos h1, if_pos h1, if_neg (by simp)]
  · rw [if_neg h1, if_neg h1]
    by_cases h2 : isRec (K.drop off.toNat) = true
    · rw [if_pos h2]
      simp only [h2, true_and]
      rfl
    · rw [if_neg h2, if_neg (by simp [h2]), if_neg (by simp)]
end Go.By
namespace Go.Proofs.YtdbgihpognfhdaaGreat.Sl.Nd
open Go Go.RowKit Go.By
structure FS where
  s : ByteArray
  R : Int
  kp : List (ByteArray × Nat)
  ld : List NameOp
  K : List Nat
  K0 : List Nat
  os : List ByteOp
def FS.sk (F : FS) (o : Nat) : Sk := oneF F.s F.R o 0 F.kp F.ld F.K F.K0 F.os
structure FS.Ok (F : FS) : Prop where
  name : mayName F.s = true
  size : F.s.size ≤ maxLen
  room : 0 ≤ F.R ∧ F.R ≤ 1099511627776
  len : F.K.length ≤ 1048576
  ld : F.ld.length < 1000000
  os : F.os.length < 1000000
theorem FS.fine {F : FS} (h : F.Ok) {o : Nat} (ho : o < 4611686018427387904) : (F.sk o).Fine where
  ops := ho
  left := by show 0 < _; omega
  made := by show 1 < _; omega
  laid := h.ld
  few := fun n => by
    show (if n = 1 then (⟨F.K, F.K0, F.os⟩ : FileA) else noFile).laid.length < _
    split
    · exact h.os
    · show 0 < _; omega
  short := fun n => by
    have := h.len
    show (if n = 1 then (⟨F.K, F.K0, F.os⟩ : FileA) else noFile).seen.length ≤ _
    split
    · show F.K.length ≤ _; omega
    · show 0 ≤ _; omega
  room := by have := h.room; show 0 ≤ F.R ∧ F.R ≤ _; omega
  used := by have := h.len; show 0 ≤ (F.K.length : Int) ∧ (F.K.length : Int) ≤ _; omega
structure Tf (F : FS) (W : World) (g a o : Nat) (own : Own) (w : World) : Prop where
  disk : Dsk W a (F.sk o) own w
  file : Fil W g a F.s F.K.length own w
theorem Tf.stay {F : FS} {W w w' : World} {g a o : Nat} {own : Own} (h : Tf F W g a o own w) (hb : Below w.heap.size w w') : Tf F W g a o own w' := ⟨h.disk.stay hb, h.file.stay hb⟩
theorem Tf.small {F : FS} {W w : World} {g a o : Nat} {own : Own} (h : Tf F W g a o own w) : ∀ c ∈ F.K, c < 256 := h.disk.small (s := F.s) (n := 1) (get_one F.s 1)
theorem fs_piece {F : FS} (h : F.Ok) (o : Nat) {off : Nat} (ho : off ≤ F.K.length) : (F.sk o).piece F.s off = ((F.K.drop off).take 4105, 0) := oneF_piece h.name (by decide) ho (by have := h.len; omega)
theorem readOut_fs {F : FS} (h : F.Ok) (o : Nat) (off : Int) : (readOut (F.sk o) F.s F.K.length off).1 = (rdAt F.K off).1 ∧ (readOut (F.sk o) F.s F.K.length off).2.1 = (rdAt F.K off).2.1 ∧ (readOut (F.sk o) F.s F.K.length off).2.2 = ((rdAt F.K off).2.2 : Nat) := by
  have he : endAt (F.sk o) F.s F.K.length = F.K.length := oneF_end rfl
  unfold readOut rdAt
  rw [he]
  by_cases h1 : off < 256 ∨ (F.K.length : Int) ≤ off
  · rw [if_pos h1, if_pos h1]; exact ⟨rfl, rfl, rfl⟩
  · rw [if_neg h1, if_neg h1]
    obtain ⟨n, rfl⟩ : ∃ n : Nat, off = n := ⟨off.toNat, by omega⟩
    rw [fs_piece h o (by omega)]
    dsimp only
    rw [if_neg (by simp), Int.toNat_natCast]
    unfold tkKind tkBody tkErr
    rw [isRec_take]
    cases hr : isRec (F.K.drop n) with
    | false => exact ⟨rfl, rfl, rfl⟩
    | true =>
      rw [bodyLen_take _ (by decide), atB_takeT (by decide)]
      have hbl : bodyLen (F.K.drop n) ≤ 4096 := by
        unfold isRec at hr
        simp only [Bool.and_eq_true] at hr
        have := hr.1.1.1
        unfold partOk at this
        simp only [Bool.and_eq_true, decide_eq_true_eq] at this
        exact this.2
      rw [pc_take' (by omega)]
      exact ⟨rfl, rfl, rfl⟩
def RdFile (F : FS) (W : World) (g a o : Nat) (own : Own) (w : World) (off : Int) (z : Ending) (w' : World) : Prop :=
  ∃ p c o', o ≤ o' ∧ o' ≤ o + 1 ∧ z = .returned (.tuple #[.int .u8 ((rdAt F.K off).1 : Nat), .slice p (rdAt F.K off).2.1.length c, .int .i64 ((rdAt F.K off).2.2 : Nat)]) ∧ Bytes w' (.slice p (rdAt F.K off).2.1.length c) (rdAt F.K off).2.1 ∧ Steps own own w w' ∧ Tf F W g a o' own w'
theorem fileRead_tf {F : FS} {W w : World} {g a o : Nat} {own : Own} (h : Tf F W g a o own w) (hF : F.Ok) (ho : o < 4611686018427387904) (off : Int) :
    Calls Tryz.prog 91 #[.pointer (some ⟨g, 0, none⟩), .int .i64 off] w (RdFile F W g a o own w off) := by
  have he : endAt (F.sk o) F.s F.K.length = F.K.length := oneF_end rfl
  have hl := hF.len
  obtain ⟨e1, e2, e3⟩ := readOut_fs hF o off
  refine (fileRead_any h.disk h.file (F.fine hF ho) hF.size off (by rw [he]; omega)).mono ?_
  rintro e w' ⟨p, c, rfl, hb, _, hst, hd, hf⟩
  rw [e1, e3]
  rw [e2] at hb ⊢
  unfold readS at hd
  split at hd
  · exact ⟨p, c, o, Nat.le_refl _, by omega, rfl, hb, hst, hd, hf⟩
  · exact ⟨p, c, o + 1, by omega, Nat.le_refl _, rfl, hb, hst, hd, hf⟩
end Go.Proofs.YtdbgihpognfhdaaGreat.Sl.Nd
