/- The document's numbers, highest byte first. -/
import Derived.Test.YtkhpblclpcgjnaaGen
namespace Go.Proofs.Ytkhpblclpcgjnaa
open Go Go.RowKit Go.By

/-- What High leaves, as it goes. -/
def HighRel (w0 : World) (v n : Nat) (x i : Value) (w : World) : Prop :=
  ∃ (m : Nat) (cur : Nat) (tl : List Nat), m ≤ n ∧ m + tl.length = n ∧ x = .int .u64 (cur : Nat) ∧ i = .int .i64 ((m : Int) - 1) ∧ cur < 18446744073709551616 ∧ highOf v n = highOf cur m ++ tl ∧ Filled w0 w (List.replicate m 0 ++ tl)

set_option maxRecDepth 100000 in
theorem high_any (v n : Nat) (w : World) (hv : v < 18446744073709551616) (hn : n ≤ 1000) :
    Calls Try.prog 19 #[.int .u64 v, .int .i64 n] w fun e w' => ∃ v', e = .returned v' ∧ w'.ownsRow w.heap.size 5 1 v' n (cellsOf (highOf v n)) ∧ Below w.heap.size w w' := by
  have hmk := made_run n n (n : Int) (n : Int) rfl rfl (Nat.le_refl _) (by omega)
  have HV := Lib.hid hv; clear hv
  go_enter Try.func19, Try.ntmps19
  go_wp2
  clear hmk
  have h0 : HighRel w v n (.int .u64 v) (.int .i64 ((n : Int) - 1)) (w.alloc (.cells (zeros n) 5)) :=
    ⟨n, v, [], Nat.le_refl _, by simp, rfl, rfl, HV.out, by simp, by
      refine ⟨?_, (Below.refl _ _).alloc (Nat.le_refl _) _⟩
      rw [List.append_nil]; exact heap_alloc_new w _⟩
  have H0 := Lib.hid h0; clear h0
  go_loopw [0, 6] (fun x i wr => HighRel w v n x i wr) (fun _ i _ => (intOf i + 1).toNat)
  case atStart => exact H0.out
  case round =>
    clear H0
    obtain ⟨m, cur, tl, hmn, hml, rfl, rfl, hcur, heq, hf⟩ := hrel
    cases m with
    | zero =>
      have e1 : highOf v n = tl := by simpa [highOf] using heq
      have e2 : tl.length = n := by omega
      have HO := Lib.hid (hf.owns (by simp; unfold maxLen; omega))
      have HB := Lib.hid hf.2
      have E1 := Lib.hid e1; have E2 := Lib.hid e2
      clear heq hf hmn hml hcur e1 e2
      go_wp2
      go_ret
      refine ⟨_, rfl, ?_, HB.out⟩
      have := HO.out
      rw [E1.out]
      simp only [List.replicate_zero, List.nil_append, E2.out] at this
      exact this
    | succ m =>
      have hlen : (List.replicate (m + 1) 0 ++ tl).length = n := by simp; omega
      have hc := hf.cell (i := m) (by rw [hlen]; omega)
      have hfr := hf.free m
      have hset : (List.replicate (m + 1) 0 ++ tl).set m (cur % 256) = List.replicate m 0 ++ (cur % 256 :: tl) := by
        rw [List.replicate_succ', List.append_assoc, List.set_append_right _ _ (by simp)]
        simp
      have hf2 := hf.set m (cur % 256)
      rw [hset] at hf2
      have hrel2 : HighRel w v n (.int .u64 (cur / 256 : Nat)) (.int .i64 ((m : Int) - 1)) (wr.setCell ⟨w.heap.size, m, none⟩ (.int .u8 (cur % 256 : Nat))) :=
        ⟨m, cur / 256, _, by omega, by simp; omega, rfl, rfl, by omega, by rw [heq]; simp [highOf], hf2⟩
      have HR := Lib.hid hrel2
      have hx : ((m + 1 : Nat) : Int) - 1 = (m : Int) := by omega
      rw [hx]
      have hmn' : (m : Int) < n := by omega
      have hcur' : (cur : Int) < 18446744073709551616 := by omega
      clear hset hf hf2 heq hrel2 hlen hx hml hmn hcur
      go_wp2
      go_roundw
      case rel => exact HR.out
      case measure => simp [intOf]

set_option maxRecDepth 100000 in
theorem num_any (v : Value) (l : List Nat) (w : World) (hv : Bytes w v l) (hl : l.length ≤ 8) :
    Calls Try.prog 15 #[v] w fun e w' => e = .returned (.int .u64 (numOf l : Nat)) ∧ w = w' := by
  obtain ⟨p, cap, rfl, _⟩ := hv.any
  have HV := Lib.hid hv; clear hv
  go_enter Try.func15, Try.ntmps15
  go_wp2
  go_loop [3, 4] (fun x i => ∃ k : Nat, k ≤ l.length ∧ i = .int .i64 k ∧ x = .int .u64 (numOf (l.take k) : Nat)) (fun _ i => l.length - (intOf i).toNat)
  case atStart => exact ⟨0, by omega, rfl, rfl⟩
  case round =>
    obtain ⟨k, hk, rfl, rfl⟩ := hrel
    by_cases hlt : k < l.length
    · obtain ⟨b1, o1, rfl, hcell⟩ := HV.out.spot k hlt
      have hn : numOf (l.take k) < 72057594037927936 := by
        have h1 := numOf_lt (l.take k) (fun c hc => HV.out.small c (List.mem_of_mem_take hc))
        have h2 : 256 ^ (l.take k).length ≤ 256 ^ 7 := Nat.pow_le_pow_right (by omega) (by rw [List.length_take]; omega)
        exact Nat.lt_of_lt_of_le h1 (Nat.le_trans h2 (by decide))
      have hcl : atB l k < 256 := HV.out.at_lt hlt
      have hs : numOf (l.take (k + 1)) = numOf (l.take k) * 256 + atB l k := by
        rw [List.take_succ_eq_append_getElem hlt, numOf_snoc, atB_of hlt]
      have HS := Lib.hid hs; clear hs
      generalize numOf (l.take k) = x at *
      generalize atB l k = y at *
      have hx : (x : Int) < 72057594037927936 := by omega
      have hy : (y : Int) < 256 := by omega
      clear hn hcl
      go_wp2
      go_round
      case rel => exact ⟨k + 1, by omega, by go_num, by rw [HS.out]; go_num⟩
      case measure => simp [intOf]; omega
    · obtain rfl : k = l.length := by omega
      rw [List.take_length]
      go_wp2
      go_ret
      exact ⟨rfl, rfl⟩

end Go.Proofs.Ytkhpblclpcgjnaa

