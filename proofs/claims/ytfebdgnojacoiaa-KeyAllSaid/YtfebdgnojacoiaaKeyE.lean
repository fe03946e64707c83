/- Keys: the number that bytes are; whether two are the same; what a key was made of. -/
import Derived.Test.YtfebdgnojacoiaaKeyD
import Derived.Test.YtfebdgnojacoiaaRefO
namespace Go.Proofs.Ytfebdgnojacoiaa
open Go Go.RowKit Go.By

theorem or_byte64 (n c : Nat) (hn : n < 72057594037927936) (hc : c < 256) : bits .or .u64 ((n * 256 : Nat) : Int) (c : Int) = ((n * 256 + c : Nat) : Int) := by
  have h := Nat.two_pow_add_eq_or_of_lt (i := 8) (b := c) hc n
  rw [(bits_nat .u64 64 (by decide) (fun n h0 h1 => by rw [IntKind.wrap_u64]; omega) (n * 256) c (by omega) (by omega)).2]
  have h3 : n * 256 ||| c = n * 256 + c := by rw [show n * 256 = 2 ^ 8 * n by omega, ← h]
  rw [h3]

set_option maxRecDepth 100000 in
theorem numberOf_any (v : Value) (l : List Nat) (w : World) (hv : Bytes w v l) (hl : l.length ≤ 8) :
    Calls Try.prog 36 #[v] w fun e w' => e = .returned (.int .i64 (wrap64 (numOf l : Nat))) ∧ w' = w := by
  obtain ⟨p, cap, rfl, _⟩ := hv.any
  have HV := Lib.hid hv; clear hv
  go_enter Try.func36, Try.ntmps36
  go_wp2
  go_loop [3, 8] (fun x i => ∃ k : Nat, k ≤ l.length ∧ i = .int .i64 k ∧ x = .int .u64 (numOf (l.take k) : Nat)) (fun _ i => l.length - (intOf i).toNat)
  case atStart => exact ⟨0, by omega, rfl, rfl⟩
  case round =>
    obtain ⟨k, hk, rfl, rfl⟩ := hrel
    by_cases hlt : k < l.length
    · obtain ⟨b1, o1, rfl, hcell⟩ := HV.out.spot k hlt
      have hn : numOf (l.take k) < 72057594037927936 := by
        have h1 := numOf_lt (l.take k) (fun c hc => HV.out.small c (List.mem_of_mem_take hc))
        have h2 : 256 ^ (l.take k).length ≤ 256 ^ 7 := Nat.pow_le_pow_right (by omega) (by rw [List.length_take]; omega)
        exact Nat.lt_of_lt_of_le h1 (Nat.le_trans h2 (by decide))
      have hcl : atB l k < 256 := HV.out.at_lt hlt
      have hs : numOf (l.take (k + 1)) = numOf (l.take k) * 256 + atB l k := by
        rw [List.take_succ_eq_append_getElem hlt, numOf_snoc, atB_of hlt]
      have HS := Lib.hid hs; clear hs
      have e1 := or_byte64 (numOf (l.take k)) (atB l k) hn hcl
      have e2 : IntKind.u64.wrap ((numOf (l.take k) : Int) * 256) = ((numOf (l.take k) * 256 : Nat) : Int) := by rw [IntKind.wrap_u64]; omega
      generalize numOf (l.take k) * 256 = z at *
      generalize numOf (l.take k) = x at *
      generalize atB l k = y at *
      generalize hzy : z + y = zy at *
      clear hn hzy
      go_wp2
      go_round
      case rel => exact ⟨k + 1, by omega, by go_num, by rw [HS.out]⟩
      case measure => simp [intOf]; omega
    · obtain rfl : k = l.length := by omega
      rw [List.take_length]
      generalize hx : numOf l = x at *
      have HX := Lib.hid hx; clear hx
      go_wp2
      go_ret
      exact ⟨by rw [HX.out]; rfl, rfl⟩

set_option maxRecDepth 100000 in
theorem equal_any (v u : Value) (l m : List Nat) (w : World) (hv : Bytes w v l) (hu : Bytes w u m) :
    Calls Try.prog 37 #[v, u] w fun e w' => e = .returned (.bool (decide (l = m))) ∧ w' = w := by
  have h1 := hv.toString (P := Try.prog) byT (d := 9) (by kernel_rfl)
  have h2 := hu.toString (P := Try.prog) byT (d := 9) (by kernel_rfl)
  have E : Hid (((strOf l).toList == (strOf m).toList) = decide (l = m)) := by
    unfold Hid
    rw [eq_str, natsOf_strOf hv.small, natsOf_strOf hu.small]
  clear hv hu
  go_enter Try.func37, Try.ntmps37
  go_wp2
  go_ret
  exact ⟨by rw [← E.out]; rfl, rfl⟩

theorem take_pair_iff {l : List Nat} (hs : ∀ c ∈ l, c < 256) (h10 : 10 ≤ l.length) :
    (pairK (l.take (l.length - 9)) (wrap64 (numOf (l.drop (l.length - 8)) : Nat)) = l ↔ isPair l = true) ∧ (isPair l = true → wrap64 (numOf (l.drop (l.length - 8)) : Nat) = (numOf (l.drop (l.length - 8)) : Nat)) := by
  have hdl : (l.drop (l.length - 8)).length = 8 := by rw [List.length_drop]; omega
  have hds : ∀ c ∈ l.drop (l.length - 8), c < 256 := fun c hc => hs c (List.mem_of_mem_drop hc)
  have hn := numOf_lt _ hds
  rw [hdl] at hn
  have hn : numOf (l.drop (l.length - 8)) < 18446744073709551616 := hn
  have hb := high_numOf _ hds
  rw [hdl] at hb
  have hl : l = l.take (l.length - 9) ++ (atB l (l.length - 9) :: l.drop (l.length - 8)) := by
    have h1 : l.length - 9 < l.length := by omega
    conv => lhs; rw [← List.take_append_drop (l.length - 9) l, List.drop_eq_getElem_cons h1]
    rw [atB_of h1, show l.length - 9 + 1 = l.length - 8 by omega]
  generalize hN : numOf (l.drop (l.length - 8)) = N at *
  generalize ha : l.take (l.length - 9) = a at *
  generalize hd : l.drop (l.length - 8) = d at *
  generalize hx : atB l (l.length - 9) = x at *
  have hip : isPair l = (mayNm a && (decide (x = 0) && decide (N ≤ 9223372036854775807))) := by
    unfold isPair
    rw [ha, hd, hx, hN, decide_eq_true h10]; rfl
  refine ⟨⟨fun h => ?_, fun h => ?_⟩, fun h => ?_⟩
  · unfold pairK at h
    by_cases hc : mayNm a = true ∧ 0 ≤ wrap64 (N : Nat)
    · rw [if_pos hc] at h
      have hN2 : N ≤ 9223372036854775807 := by have := hc.2; unfold wrap64 at this; omega
      rw [hl] at h
      unfold pairOf at h
      have h3 := (List.append_inj h rfl).2
      simp only [List.cons.injEq] at h3
      rw [hip, hc.1, decide_eq_true h3.1.symm, decide_eq_true hN2]; rfl
    · rw [if_neg hc] at h
      rw [← h] at h10
      simp at h10
  · rw [hip] at h
    simp only [Bool.and_eq_true, decide_eq_true_eq] at h
    have hw : wrap64 (N : Nat) = N := IntWalk.wrap64_in _ (by omega)
    unfold pairK
    rw [hw, if_pos ⟨h.1, by omega⟩]
    conv => rhs; rw [hl]
    unfold pairOf
    rw [h.2.1, Int.toNat_natCast, hb]
  · rw [hip] at h
    simp only [Bool.and_eq_true, decide_eq_true_eq] at h
    exact IntWalk.wrap64_in _ (by omega)

theorem isPair_long {l : List Nat} (h : 25 < l.length) : isPair l = false := by
  rw [Bool.eq_false_iff]
  intro h2
  unfold isPair at h2
  simp only [Bool.and_eq_true] at h2
  have := mayNm_length h2.2.1
  rw [List.length_take] at this
  omega

/-- What a pair was made of. -/
def pkV (l : List Nat) : Value := .tuple #[.string (pkName l), .int .i64 (pkNum l : Nat), .bool (isPair l)]
theorem pkV_no {l : List Nat} (h : isPair l = false) : pkV l = .tuple #[.string ⟨#[]⟩, .int .i64 0, .bool false] := by
  unfold pkV pkName pkNum; rw [h]; rfl
theorem pkV_yes {l : List Nat} (h : isPair l = true) : pkV l = .tuple #[.string (strOf (l.take (l.length - 9))), .int .i64 (numOf (l.drop (l.length - 8)) : Nat), .bool true] := by
  unfold pkV pkName pkNum; rw [h]; rfl

set_option maxRecDepth 100000 in
theorem takeNumbered_any (v : Value) (l : List Nat) (w : World) (hv : Bytes w v l) :
    Calls Try.prog 27 #[v] w fun e w' => e = .returned (pkV l) ∧ Below w.heap.size w w' := by
  obtain ⟨p, cap, rfl, _⟩ := hv.any
  have hm := hv.short
  unfold maxLen at hm
  by_cases h10 : (l.length : Int) < 10
  · have E := Lib.hid (pkV_no (isPair_short (l := l) (by omega)))
    clear hv
    go_enter Try.func27, Try.ntmps27
    go_wp2
    go_ret3
    exact ⟨by rw [E.out]; rfl, Below.refl _ _⟩
  · by_cases h25 : (25 : Int) < l.length
    · have E := Lib.hid (pkV_no (isPair_long (l := l) (by omega)))
      clear hv
      go_enter Try.func27, Try.ntmps27
      go_wp2
      go_ret3
      exact ⟨by rw [E.out]; rfl, Below.refl _ _⟩
    · obtain ⟨q, c, hr, hq⟩ := tail_run hv (l.length - 8) ((l.length : Int) - 8) (by omega) (by omega)
      have hu := fun w => upto_runI p l.length cap (l.length - 9) ((l.length : Int) - 8 - 1) (by omega) (by have := hv.room.2; omega) w
      have hts := fun nq => Bytes.toString (P := Try.prog) byT (bytes_drewN (hv.upto (n := l.length - 9) (by omega)) nq) (d := 9) (by kernel_rfl)
      obtain ⟨N, hN⟩ : ∃ N : Int, N = wrap64 (numOf (l.drop (l.length - 8)) : Nat) := ⟨_, rfl⟩
      have hN1 : N < 9223372036854775808 := by rw [hN]; unfold wrap64; omega
      have hs2 : ∀ n, Calls Try.prog 36 #[.slice q (l.length - (l.length - 8) : Nat) c] (w.drewN n) fun e w' => e = .returned (.int .i64 N) ∧ w' = w.drewN n := fun n => by
        rw [hN]
        exact numberOf_any _ _ _ (bytes_drewN hq n) (by rw [List.length_drop]; omega)
      have HS2 := Lib.hid hs2
      have HV := Lib.hid hv
      obtain ⟨hpi, hpn⟩ := take_pair_iff hv.small (l := l) (by omega)
      rw [← hN] at hpi hpn
      have HN1 := Lib.hid hN1
      have HPI := Lib.hid hpi; have HPN := Lib.hid hpn
      have HSM : Hid (∀ c ∈ l.take (l.length - 9), c < 256) := fun c hc => hv.small c (List.mem_of_mem_take hc)
      clear hq hv hs2 hpi hpn hN hN1
      go_enter Try.func27, Try.ntmps27
      go_wp2
      go_quiet ((go_at_call 36; exact Calls.quiet_of_same (HS2.out _)))
      have hBW : Below w.heap.size w (w.drewN nq) := below_drewN _ _
      have HV2 := Lib.hid (bytes_drewN HV.out nq)
      have HW := Lib.hid hBW
      have hzw : (w.drewN nq).heap.size = w.heap.size := rfl
      have HZ := Lib.hid hzw
      clear hBW HS2 hr hu hts HV hzw
      generalize w.drewN nq = W at *
      have hnum := numbered_any (strOf (l.take (l.length - 9))) N W (by
        rw [← natsOf_length, natsOf_strOf HSM.out, List.length_take]; unfold maxLen; omega) HN1.out
      rw [natsOf_strOf HSM.out] at hnum
      have HNUM := Lib.hid hnum
      clear hnum
      go_wp2_with fail
      refine HNUM.out.mono ?_
      rintro e w2 ⟨v2, rfl, ho2, hb2⟩
      have hsmall : ∀ c ∈ pairK (l.take (l.length - 9)) N, c < 256 := by
        intro c hc
        unfold pairK at hc
        split at hc
        · exact pairOf_small HSM.out _ c hc
        · cases hc
      have hy2 := ho2.bytes hsmall
      have HB2 : Hid (Below w.heap.size w w2) := HW.out.trans (by rw [← HZ.out]; exact hb2)
      have HEQ := Lib.hid (equal_any v2 (.slice p l.length cap) _ l w2 hy2 (HV2.out.below hb2))
      clear ho2 hb2 hsmall hy2 HNUM HW HZ HV2
      go_wp2_with fail
      refine HEQ.out.mono ?_
      rintro e w3 ⟨rfl, rfl⟩
      clear HEQ
      cases hip : isPair l with
      | false =>
        have E := Lib.hid (pkV_no hip)
        have hd : decide (pairK (l.take (l.length - 9)) N = l) = false := decide_eq_false (fun h => by rw [HPI.out.1 h] at hip; cases hip)
        rw [hd]
        clear hd
        go_wp2
        go_ret3
        exact ⟨by rw [E.out]; rfl, HB2.out⟩
      | true =>
        have E := Lib.hid (pkV_yes hip)
        have hd : decide (pairK (l.take (l.length - 9)) N = l) = true := decide_eq_true (HPI.out.2 hip)
        rw [hd]
        have EN := Lib.hid (HPN.out hip)
        clear hd
        go_wp2
        go_ret3
        exact ⟨by rw [E.out, ← EN.out]; rfl, HB2.out⟩
end Go.Proofs.Ytfebdgnojacoiaa

