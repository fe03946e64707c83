/- Heads in a program: numbers are laid and taken. -/
import Derived.Test.YtoegkdfeonkgkaaHeA
import Derived.Test.YtoegkdfeonkgkaaRefO
import Derived.OwnWalk
namespace Go.Proofs.Ytoegkdfeonkgkaa
open Go Go.RowKit Go.By

/-- The row that a number is being laid behind, and where it stands. -/
def NumAt (w0 : World) (base n z : Nat) (l : List Nat) (x i : Value) (w : World) : Prop :=
  ∃ k : Nat, k ≤ z ∧ i = .int .i64 k ∧ w.ownsRow base 5 1 x (l ++ (highOf n z).take k).length (cellsOf (l ++ (highOf n z).take k)) ∧ Below base w0 w

/-- A row of one's own is told, this one. -/
def Rows (w : World) (base : Nat) (m : List Nat) (e : Ending) (w' : World) : Prop :=
  ∃ v', e = .returned v' ∧ w'.ownsRow base 5 1 v' m.length (cellsOf m) ∧ Below base w w'

set_option maxRecDepth 100000 in
theorem putNumber_any (n z : Nat) (hn : n < 9223372036854775808) (hz : z ≤ 8) (v : Value) (l : List Nat) (base : Nat) (w : World) (hv : w.ownsRow base 5 1 v l.length (cellsOf l)) (hl : l.length ≤ 1000) (hb : base ≤ w.heap.size) :
    Calls Try.prog 55 #[v, .int .i64 n, .int .i64 z] w (Rows w base (l ++ highOf n z)) := by
  have hn1 : (n : Int) ≤ 9223372036854775807 := by omega
  have hz1 : (z : Int) ≤ 8 := by omega
  have HN := Lib.hid hn; have HZ := Lib.hid hz; clear hn hz
  have h0 : NumAt w base n z l v (.int .i64 (0 : Nat)) w := ⟨0, by omega, rfl, by simpa using hv, Below.refl _ _⟩
  have H0 := Lib.hid h0
  clear h0 hv
  go_enter Try.func55, Try.ntmps55
  go_wp2
  go_loopw [0, 9] (fun x i wr => NumAt w base n z l x i wr) (fun _ i _ => z - (intOf i).toNat)
  case atStart => exact H0.out
  case round =>
    clear H0
    obtain ⟨k, hk, rfl, hown, hbel⟩ := hrel
    have hsz := hbel.size
    have hz8 := HZ.out
    obtain ⟨p, cap, rfl⟩ := shape_of hown
    by_cases hlt : k < z
    · obtain ⟨j, hj⟩ : ∃ j, j = z - 1 - k := ⟨_, rfl⟩
      have hj1 : ((z : Int) - 1) - (k : Int) = j := by omega
      have hsh : (n : Int) / 2 ^ (8 * (j : Int)).toNat = ((n / 256 ^ j : Nat) : Int) := by
        have : (8 * (j : Int)).toNat = 8 * j := by omega
        rw [this, show 256 ^ j = 2 ^ (8 * j) by rw [Nat.pow_mul], Int.natCast_ediv, Int.natCast_pow]
        rfl
      have htk := highOf_take (v := n) hlt
      rw [← hj] at htk
      have hxn : n / 256 ^ j ≤ n := Nat.div_le_self _ _
      have hw8 : IntKind.u8.wrap ((n / 256 ^ j : Nat) : Int) = ((n / 256 ^ j % 256 : Nat) : Int) := by rw [IntKind.wrap_u8]; omega
      generalize hx : n / 256 ^ j = x at *
      have hx1 : (x : Int) ≤ 9223372036854775807 := by omega
      have hlen : (l ++ (highOf n z).take k).length ≤ 1008 := by rw [List.length_append, List.length_take]; omega
      have HT : Hid (l ++ (highOf n z).take (k + 1) = (l ++ (highOf n z).take k) ++ [x % 256]) := by unfold Hid; rw [htk, List.append_assoc]
      generalize hm : l ++ (highOf n z).take k = m at *
      have HO := Lib.hid hown; have HB := Lib.hid hbel
      have hlm : (m.length : Int) ≤ 1008 := by omega
      have hbs : base ≤ wr.heap.size := by omega
      have hjl : (j : Int) ≤ 7 := by omega
      have hkz : (k : Int) < z := by omega
      clear hown hbel htk hxn hx hm hj hlen hz8
      go_wp2_with (at_builtin; go_loud (refine wpList_append_bytes rfl (.tmp 12) (.tmp 21) byT rfl base (.slice p m.length cap) m.length (cellsOf m) rfl (HO.out.alloc _) (.slice (some ⟨wr.heap.size, 0, none⟩) 1 1) [x % 256] rfl (Bytes.one (by omega) (by omega)) (by simp; omega) (by simp; omega) ?_); intro v2 w2 hown2 hgrow2 hnil2)
      have hb2 : Below base w w2 := (HB.out.alloc hbs _).grown hgrow2 (by simp; omega) (fun j hj => (HO.out.lt j hj).1)
      have ho2 : w2.ownsRow base 5 1 v2 (m ++ [x % 256]).length (cellsOf (m ++ [x % 256])) := by
        rw [List.length_append, cellsOf_append]; exact hown2
      rw [← HT.out] at ho2
      have hrel2 : NumAt w base n z l v2 (.int .i64 (k + 1 : Nat)) w2 := ⟨k + 1, by omega, rfl, ho2, hb2⟩
      have HR := Lib.hid hrel2
      clear hown2 hgrow2 hnil2 hb2 ho2 hrel2
      go_wp2
      go_roundw
      case rel => exact HR.out
      case measure => simp [intOf]; omega
    · obtain rfl : k = z := by omega
      rw [List.take_of_length_le (by rw [highOf_length]; omega)] at hown
      have HO := Lib.hid hown; have HB := Lib.hid hbel
      clear hown hbel hz8
      go_wp2
      go_ret
      exact ⟨_, rfl, by simpa [List.length_take, highOf_length] using HO.out, HB.out⟩

/-- What a number's taking tells. -/
def NumTold (w0 w : World) (l : List Nat) (z : Nat) (e : Ending) (w' : World) : Prop :=
  Below w.heap.size w w' ∧ if z ≤ l.length then ∃ v', e = .returned (.tuple #[.int .i64 (RowKit.wrap64 (numOf (l.take z) : Nat)), v', .bool true]) ∧ Bytes w0 v' (l.drop z)
    else e = .returned (.tuple #[.int .i64 0, .slice none 0 0, .bool false])

set_option maxRecDepth 100000 in
theorem takeNumber_any (v : Value) (l : List Nat) (z : Nat) (hz : z ≤ 8) (w0 w : World) (hv0 : Bytes w0 v l) (hbw : Below w0.heap.size w0 w) :
    Calls Try.prog 54 #[v, .int .i64 z] w (NumTold w0 w l z) := by
  have hv := hv0.below hbw
  obtain ⟨p, cap, rfl, _⟩ := hv.any
  have hm := hv.short
  unfold maxLen at hm
  have hz1 : (z : Int) ≤ 8 := by omega
  by_cases hlen : z ≤ l.length
  · have hzl : ¬ ((l.length : Int) < z) := by omega
    have hup := fun w => upto_run p l.length cap z (by have := hv.room.2; omega) w
    obtain ⟨q, c, hfr, hq⟩ := tail_run hv0 z (z : Int) rfl hlen
    have HQ := Lib.hid hq; clear hq
    have HV := Lib.hid hv; have HZ := Lib.hid hz; have HL := Lib.hid hlen; clear hv hv0 hbw hz hlen
    go_enter Try.func54, Try.ntmps54
    go_wp2
    go_loop [4, 17] (fun x i => ∃ k : Nat, k ≤ z ∧ i = .int .i64 k ∧ x = .int .i64 (RowKit.wrap64 (numOf (l.take k) : Nat))) (fun _ i => z - (intOf i).toNat)
    case atStart => exact ⟨0, by omega, rfl, by rw [List.take_zero, show numOf [] = 0 from rfl, wrap64_nat (by omega)]; rfl⟩
    case round =>
      obtain ⟨k, hk, rfl, rfl⟩ := hrel
      have hzz := HZ.out
      have hll := HL.out
      by_cases hlt : k < z
      · have hkl : k < l.length := by omega
        obtain ⟨b1, o1, rfl, hcell⟩ := HV.out.spot k hkl
        have hn : numOf (l.take k) < 72057594037927936 := by
          have h1 := numOf_lt (l.take k) (fun c hc => HV.out.small c (List.mem_of_mem_take hc))
          have h2 : 256 ^ (l.take k).length ≤ 256 ^ 7 := Nat.pow_le_pow_right (by omega) (by rw [List.length_take]; omega)
          exact Nat.lt_of_lt_of_le h1 (Nat.le_trans h2 (by decide))
        have hcl : atB l k < 256 := HV.out.at_lt hkl
        have hs : numOf (l.take (k + 1)) = numOf (l.take k) * 256 + atB l k := by
          rw [List.take_succ_eq_append_getElem hkl, numOf_snoc, atB_of hkl]
        have HS := Lib.hid hs; clear hs
        have e0 : RowKit.wrap64 ((numOf (l.take k) : Nat) : Int) = ((numOf (l.take k) : Nat) : Int) := wrap64_nat (by omega)
        have e1 := or_byteI (numOf (l.take k)) (atB l k) hn hcl
        have e2 : IntKind.i64.wrap ((numOf (l.take k) : Int) * 256) = RowKit.wrap64 ((numOf (l.take k) * 256 : Nat) : Int) := by rw [wrap_eq]; rfl
        rw [e0]
        generalize RowKit.wrap64 ((numOf (l.take k) * 256 : Nat) : Int) = z1 at *
        generalize numOf (l.take k) = x at *
        generalize atB l k = y at *
        generalize hzy : RowKit.wrap64 ((x * 256 + y : Nat) : Int) = zy at *
        have HZY := Lib.hid hzy
        have hkz : (k : Int) < z := by omega
        clear hn hzz hll e0 hzy
        go_wp2
        go_round
        case rel => exact ⟨k + 1, by omega, by go_num, by rw [HS.out, HZY.out]⟩
        case measure => simp [intOf]; omega
      · obtain rfl : k = z := by omega
        generalize hzy : RowKit.wrap64 ((numOf (l.take k) : Nat) : Int) = zy at *
        have HZY := Lib.hid hzy
        clear hzz hll hzy
        go_wp2
        go_region
        go_wp2
        go_ret3
        exact ⟨(Below.refl _ _).drew, by rw [if_pos HL.out, HZY.out]; exact ⟨_, rfl, HQ.out⟩⟩
  · have hzl : (l.length : Int) < z := by omega
    have HL := Lib.hid hlen; clear hv hv0 hbw hz hlen
    go_enter Try.func54, Try.ntmps54
    go_wp2
    go_ret3
    exact ⟨Below.refl _ _, by rw [if_neg HL.out]; rfl⟩
end Go.Proofs.Ytoegkdfeonkgkaa

