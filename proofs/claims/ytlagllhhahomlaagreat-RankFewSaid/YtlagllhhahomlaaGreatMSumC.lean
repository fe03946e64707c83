/- Sum: walks: the table. -/
import Derived.Test.YtlagllhhahomlaaGreatMSumB
import Derived.Handy
namespace Go.Proofs.YtlagllhhahomlaaGreat
open Go.RowKit
theorem d8_add (k rest : Nat) (h : rest < 2 ^ k) : Crc.d8 (2 ^ k + rest) = Crc.d8 (2 ^ k) ^^^ Crc.d8 rest := by
  rw [← Crc.d8_xor]
  congr 1
  apply Nat.eq_of_testBit_eq; intro i
  have h1 := Nat.two_pow_add_eq_or_of_lt (i := k) (b := rest) h 1
  rw [Nat.mul_one] at h1
  rw [h1, Nat.testBit_or, Nat.testBit_xor, Nat.testBit_two_pow]
  by_cases hi : k = i
  · subst hi; simp [Nat.testBit_lt_two_pow h]
  · simp [hi]
def Tab (B b m : Nat) (w0 w : World) : Prop :=
  (∀ i : Nat, i < 256 → ∃ v, w.cell? ⟨b, i, none⟩ = some v) ∧ (∀ i : Nat, i < 256 → w.frozen? ⟨b, i, none⟩ = false) ∧
  (∀ i : Nat, i < m → w.cell? ⟨b, i, none⟩ = some (.int .u32 (Crc.d8 i : Nat))) ∧ Below B w0 w
theorem Tab.put {B b m : Nat} {w0 w : World} (h : Tab B b m w0 w) (hB : B ≤ b) (hm : m < 256) : Tab B b (m + 1) w0 (w.setCell ⟨b, m, none⟩ (.int .u32 (Crc.d8 m : Nat))) := by
  obtain ⟨h1, h2, h3, h4⟩ := h
  obtain ⟨v, hv⟩ := h1 m hm
  refine ⟨fun i hi => ?_, fun i hi => ?_, fun i hi => ?_, h4.setCell hB _⟩
  · obtain ⟨u, hu⟩ := h1 i hi
    exact cell?_setCell_some hu
  · rw [World.frozen?_setCell]; exact h2 i hi
  · by_cases he : i = m
    · subst he; exact World.cell?_setCell_same _ _ _ hv
    · rw [World.cell?_setCell_other _ _ _ _ (by intro hh; simp only [Addr.mk.injEq] at hh; omega)]; exact h3 i (by omega)
theorem Tab.drew {B b m : Nat} {w0 w : World} (h : Tab B b m w0 w) : Tab B b m w0 w.drew :=
  ⟨h.1, h.2.1, h.2.2.1, h.2.2.2.drew⟩
set_option maxRecDepth 100000 in
theorem fill_any (B b : Nat) (w : World) (hB : B ≤ b) (h1 : ∀ i : Nat, i < 256 → ∃ v, w.cell? ⟨b, i, none⟩ = some v) (h2 : ∀ i : Nat, i < 256 → w.frozen? ⟨b, i, none⟩ = false)
    (h3 : w.cell? ⟨b, 0, none⟩ = some (.int .u32 0)) :
    Calls Tryz.prog 132 #[.pointer (some ⟨b, 0, none⟩)] w fun e w' => e = .returned (.tuple #[]) ∧ Tab B b 256 w w' := by
  have hT : Tab B b (2 ^ 0) w w := ⟨h1, h2, fun i hi => (by
    obtain rfl : i = 0 := Nat.lt_one_iff.1 hi
    exact h3), Below.refl _ _⟩
  have HT := Lib.hid hT; clear h1 h2 h3 hT
  go_enter Tryz.func132, Tryz.ntmps132
  go_wp2
  go_loopw [2] (fun x wr => ∃ k : Nat, k ≤ 8 ∧ x = .int .i64 (2 ^ k : Nat) ∧ Tab B b (2 ^ k) w wr) (fun x _ => 256 - (intOf x).toNat)
  case atStart => exact ⟨0, by omega, rfl, HT.out⟩
  case round =>
    obtain ⟨k, hk, rfl, ht⟩ := hrel
    clear HT
    have HT := Lib.hid ht; clear ht
    by_cases hlt : k < 8
    · have hp : 2 ^ k ≤ 128 := by
        have : 2 ^ k ≤ 2 ^ 7 := Nat.pow_le_pow_right (by omega) (by omega)
        omega
      have hp1 : 0 < 2 ^ k := Nat.two_pow_pos k
      have hs : (2 : Nat) ^ (k + 1) = 2 ^ k * 2 := Nat.pow_succ ..
      have HS := Lib.hid hs; clear hs
      have hd : ∀ rest, rest < 2 ^ k → Crc.d8 (2 ^ k + rest) = Crc.d8 (2 ^ k) ^^^ Crc.d8 rest := fun rest => d8_add k rest
      have HD := Lib.hid hd; clear hd
      generalize 2 ^ k = p at *
      have hp0 : (p : Int) < 256 := by omega
      obtain ⟨wo, rfl⟩ : ∃ wo : World, wo = wr := ⟨_, rfl⟩
      go_wp2_with (go_at_call 164; refine (eight_any p _ (by omega)).mono ?_; rintro e w' ⟨rfl, rfl⟩)
      go_loopw [13] (fun i wi => ∃ j : Nat, j ≤ p ∧ i = .int .i64 j ∧ Tab B b (p + j) w wi) (fun i _ => p - (intOf i).toNat)
      case atStart => exact ⟨0, by omega, rfl, HT.out⟩
      case round =>
        obtain ⟨j, hj, rfl, ht⟩ := hrel
        by_cases hjlt : j < p
        · have hput := ht.put hB (by omega)
          have HP := Lib.hid hput; clear hput
          obtain ⟨t1, t2, t3, t4⟩ := ht
          have g1 := t3 j (by omega)
          obtain ⟨v, g2⟩ := t1 (p + j) (by omega)
          have g3 := t2 (p + j) (by omega)
          have e1 : bits .xor .u32 ((Crc.d8 p : Nat) : Int) ((Crc.d8 j : Nat) : Int) = ((Crc.d8 (p + j) : Nat) : Int) := by
            rw [HD.out j hjlt]; exact bits_xor32 _ _ (Crc.d8_lt (by omega)) (Crc.d8_lt (by omega))
          clear t1 t2 t3 t4 HT
          have hj0 : (j : Int) < 256 := by omega
          have hpj0 : (p : Int) + (j : Int) < 256 := by omega
          have hpj1 : ((p : Int) + (j : Int)).toNat = p + j := by omega
          go_wp2
          go_region
          go_wp2
          go_roundw
          case rel => exact ⟨j + 1, by omega, by go_num, HP.out.drew⟩
          case measure => simp [intOf]; omega
        · obtain rfl : j = p := by omega
          clear HT
          have HT := Lib.hid ht; clear ht
          go_wp2
          go_roundw
          case rel => exact ⟨k + 1, by omega, by rw [HS.out]; go_num, by rw [HS.out, Nat.mul_two]; exact HT.out⟩
          case measure => simp [intOf]; omega
    · obtain rfl : k = 8 := by omega
      go_wp2
      go_returns
      exact ⟨rfl, HT.out⟩
end Go.Proofs.YtlagllhhahomlaaGreat
