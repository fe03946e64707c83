/- slot: the parts of a sector, as slices; numbers. -/
import Derived.Test.YtldkeelgnfegeaaGreatMSumD
import Derived.Test.YtldkeelgnfegeaaGreatGen
import Derived.Test.YtldkeelgnfegeaaGreatMSlA

namespace Go.Proofs.YtldkeelgnfegeaaGreat.Sl
open Go Go.RowKit Go.By

theorem secT : ByT Tryz.prog 134 5 := ⟨by kernel_rfl, by kernel_rfl, by kernel_rfl⟩
theorem secT_size (w : World) : (sizeOf (Tryz.prog.elem 134)).run Tryz.prog w = .ok 1 w := by kernel_rfl
/-- s[i:n], s[:n], s[i:]. -/
theorem cut_lh (b off len cap i n : Nat) (I N : Int) (hI : I = i) (hN : N = (i + n : Nat)) (hn : i + n ≤ cap) (hi : i < cap) (w : World) :
    (Instr.slice 134 (.slice (some ⟨b, off, none⟩) len cap) (some (.int .i64 I)) (some (.int .i64 N)) none).run Tryz.prog w = .ok (.slice (some ⟨b, off + i, none⟩) n (cap - i)) w := by
  have hr := run_slice_lh (P := Tryz.prog) w 134 (some ⟨b, off, none⟩) len cap (by kernel_rfl) .i64 .i64 I N (by omega) (by omega) (by omega)
  have e1 : N.toNat = i + n := by omega
  have e2 : I.toNat = i := by omega
  have e3 : ¬ cap - i = 0 := by omega
  simp only [secT_size, Result.andThen, e1, e2, sliced, Nat.add_sub_cancel_left, Nat.mul_one] at hr
  rw [hr]
  simp [Addr.add_lit]
  omega
set_option maxRecDepth 100000 in
theorem cut_h (b off len cap n : Nat) (N : Int) (hN : N = n) (hn : n ≤ cap) (w : World) :
    (Instr.slice 134 (.slice (some ⟨b, off, none⟩) len cap) none (some (.int .i64 N)) none).run Tryz.prog w = .ok (.slice (some ⟨b, off, none⟩) n cap) w := by
  subst hN
  have hr := run_slice_h (P := Tryz.prog) w 134 (some ⟨b, off, none⟩) len cap (by kernel_rfl) .i64 (n : Int) (by omega) (by omega)
  have e2 : (n : Int).toNat = n := by omega
  simp only [secT_size, Result.andThen, e2, sliced, Nat.zero_mul, Nat.sub_zero] at hr
  rw [hr]
  congr 2
  split
  · rfl
  · simp [Addr.add]
theorem cut_l (b off len cap i : Nat) (I : Int) (hI : I = i) (hn : i ≤ len) (_hlc : len ≤ cap) (hi : i < cap) (w : World) :
    (Instr.slice 134 (.slice (some ⟨b, off, none⟩) len cap) (some (.int .i64 I)) none none).run Tryz.prog w = .ok (.slice (some ⟨b, off + i, none⟩) (len - i) (cap - i)) w := by
  have hr := run_slice_l (P := Tryz.prog) w 134 (some ⟨b, off, none⟩) len cap (by kernel_rfl) .i64 I (by omega) (by omega)
  have e2 : I.toNat = i := by omega
  simp only [secT_size, Result.andThen, e2, sliced, Nat.mul_one] at hr
  rw [hr]
  simp [Addr.add_lit]
  omega

theorem letters_any (b off cap : Nat) (w : World) (hc : 128 ≤ cap) :
    Calls Tryz.prog 75 #[.slice (some ⟨b, off, none⟩) 128 cap] w fun e w' => e = .returned (.slice (some ⟨b, off, none⟩) 2 cap) ∧ w = w' := by
  have hr := cut_h b off 128 cap 2 2 rfl (by omega)
  clear hc
  go_enter Tryz.func75, Tryz.ntmps75
  go_wp2
  go_ret
  exact ⟨rfl, rfl⟩
theorem gen_any (b off cap : Nat) (w : World) (hc : 128 ≤ cap) :
    Calls Tryz.prog 77 #[.slice (some ⟨b, off, none⟩) 128 cap] w fun e w' => e = .returned (.slice (some ⟨b, off + 2, none⟩) 8 (cap - 2)) ∧ w = w' := by
  have hr := cut_lh b off 128 cap 2 8 2 10 rfl rfl (by omega) (by omega)
  clear hc
  go_enter Tryz.func77, Tryz.ntmps77
  go_wp2
  go_ret
  exact ⟨rfl, rfl⟩
theorem size_any (b off cap : Nat) (w : World) (hc : 128 ≤ cap) :
    Calls Tryz.prog 78 #[.slice (some ⟨b, off, none⟩) 128 cap] w fun e w' => e = .returned (.slice (some ⟨b, off + 10, none⟩) 1 (cap - 10)) ∧ w = w' := by
  have hr := cut_lh b off 128 cap 10 1 10 11 rfl rfl (by omega) (by omega)
  clear hc
  go_enter Tryz.func78, Tryz.ntmps78
  go_wp2
  go_ret
  exact ⟨rfl, rfl⟩
theorem sumPart_any (b off cap : Nat) (w : World) (hc : 128 ≤ cap) :
    Calls Tryz.prog 80 #[.slice (some ⟨b, off, none⟩) 128 cap] w fun e w' => e = .returned (.slice (some ⟨b, off + 124, none⟩) 4 (cap - 124)) ∧ w = w' := by
  have hr := cut_l b off 128 cap 124 124 rfl (by omega) (by omega) (by omega)
  clear hc
  go_enter Tryz.func80, Tryz.ntmps80
  go_wp2
  go_ret
  exact ⟨rfl, rfl⟩

theorem wrap_u64_in (x : Int) (h0 : 0 ≤ x) (h1 : x < 18446744073709551616) : IntKind.u64.wrap x = x := by rw [IntKind.wrap_u64]; omega

/-- The sum of what stands ahead of it. -/
theorem ahead_any (b off cap : Nat) (l : List Nat) (w : World) (hl : l.length = 128) (hv : Bytes w (.slice (some ⟨b, off, none⟩) 128 cap) l) :
    Calls Tryz.prog 81 #[.slice (some ⟨b, off, none⟩) 128 cap] w fun e w' => e = .returned (.int .u64 (Crc.sum (l.take 124) : Nat)) ∧ Below w.heap.size w w' := by
  have hr := cut_h b off 128 cap 124 124 rfl (by have := hv.room.2; omega)
  have hv' : Bytes w (.slice (some ⟨b, off, none⟩) l.length cap) l := by rw [hl]; exact hv
  have HU := Lib.hid (hv'.upto (n := 124) (by omega))
  have hs := Crc.sum_lt (l.take 124) (fun c hc => hv.small c (List.mem_of_mem_take hc))
  have hw := wrap_u64_in ((Crc.sum (l.take 124) : Nat) : Int) (by omega) (by omega)
  clear hv hv' hs
  go_enter Tryz.func81, Tryz.ntmps81
  go_wp2_with fail
  refine (sum_any _ (l.take 124) w HU.out).mono ?_
  rintro e w1 ⟨rfl, hb⟩
  have HB := Lib.hid hb; clear hb
  go_wp2
  go_ret
  exact ⟨rfl, HB.out⟩

theorem or_byte64 (n c : Nat) (hn : n < 72057594037927936) (hc : c < 256) : bits .or .u64 ((n * 256 : Nat) : Int) (c : Int) = ((n * 256 + c : Nat) : Int) := by
  have h := Nat.two_pow_add_eq_or_of_lt (i := 8) (b := c) hc n
  rw [(bits_nat .u64 64 (by decide) (fun n h0 h1 => by rw [IntKind.wrap_u64]; omega) (n * 256) c (by omega) (by omega)).2]
  have h3 : n * 256 ||| c = n * 256 + c := by rw [show n * 256 = 2 ^ 8 * n by omega, ← h]
  rw [h3]

set_option maxRecDepth 100000 in
theorem number_any (v : Value) (l : List Nat) (w : World) (hv : Bytes w v l) (hl : l.length ≤ 8) :
    Calls Tryz.prog 90 #[v] w fun e w' => e = .returned (.int .u64 (numOf l : Nat)) ∧ w = w' := by
  obtain ⟨p, cap, rfl, _⟩ := hv.any
  have HV := Lib.hid hv; clear hv
  go_enter Tryz.func90, Tryz.ntmps90
  go_wp2
  go_loop [3, 8] (fun x i => ∃ k : Nat, k ≤ l.length ∧ i = .int .i64 k ∧ x = .int .u64 (numOf (l.take k) : Nat)) (fun _ i => l.length - (intOf i).toNat)
  case atStart => exact ⟨0, by omega, rfl, rfl⟩
  case round =>
    obtain ⟨k, hk, rfl, rfl⟩ := hrel
    by_cases hlt : k < l.length
    · obtain ⟨b1, o1, rfl, hcell⟩ := HV.out.spot k hlt
      have hn : numOf (l.take k) < 72057594037927936 := by
        have h1 := numOf_lt (l.take k) (fun c hc => HV.out.small c (List.mem_of_mem_take hc))
        have h2 : 256 ^ (l.take k).length ≤ 256 ^ 7 := Nat.pow_le_pow_right (by omega) (by rw [List.length_take]; omega)
        exact Nat.lt_of_lt_of_le h1 (Nat.le_trans h2 (by decide))
      have hcl : atB l k < 256 := HV.out.at_lt hlt
      have hs : numOf (l.take (k + 1)) = numOf (l.take k) * 256 + atB l k := by
        rw [List.take_succ_eq_append_getElem hlt, numOf_snoc, atB_of hlt]
      have HS := Lib.hid hs; clear hs
      have e1 := or_byte64 (numOf (l.take k)) (atB l k) hn hcl
      have e2 : IntKind.u64.wrap ((numOf (l.take k) : Int) * 256) = ((numOf (l.take k) * 256 : Nat) : Int) := by rw [IntKind.wrap_u64]; omega
      generalize numOf (l.take k) * 256 = z at *
      generalize numOf (l.take k) = x at *
      generalize atB l k = y at *
      generalize hzy : z + y = zy at *
      clear hn hzy
      go_wp2
      go_round
      case rel => exact ⟨k + 1, by omega, by go_num, by rw [HS.out]⟩
      case measure => simp [intOf]; omega
    · obtain rfl : k = l.length := by omega
      rw [List.take_length]
      go_wp2
      go_ret
      exact ⟨rfl, rfl⟩
end Go.Proofs.YtldkeelgnfegeaaGreat.Sl
