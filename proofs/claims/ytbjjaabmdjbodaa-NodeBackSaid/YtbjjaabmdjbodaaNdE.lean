/- Nodes in a program: which are the same, on. -/
import Derived.Test.YtbjjaabmdjbodaaNdD
namespace Go.Proofs.Ytbjjaabmdjbodaa
open Go Go.RowKit Go.By

set_option maxRecDepth 100000 in
theorem eqKeys_any (p q : Option Addr) (c d : Nat) (xs ys : List (List Nat)) (w : World) (hx : RowAt KBytes w p c xs) (hy : RowAt KBytes w q d ys) :
    Calls Try.prog 23 #[.slice p xs.length c, .slice q ys.length d, .func (.func 24) #[] #[]] w fun e w' => e = .returned (.bool (decide (xs = ys))) ∧ Below w.heap.size w w' := by
  have h0 : AlikeRel w xs ys (.int .i64 (0 : Nat)) w := ⟨0, by omega, rfl, fun j hj => absurd hj (by omega), Below.refl _ _⟩
  have H0 := Lib.hid h0; have HX := Lib.hid hx; have HY := Lib.hid hy
  obtain ⟨N, hN⟩ : ∃ N, N = xs.length := ⟨_, rfl⟩
  obtain ⟨M, hM⟩ : ∃ M, M = ys.length := ⟨_, rfl⟩
  have hN9 : (N : Int) ≤ 9223372036854775807 := by have := hx.le; have := hx.most; unfold maxLen at this; omega
  have HN := Lib.hid hN; have HM := Lib.hid hM
  rw [← hN, ← hM]
  clear h0 hx hy hN hM
  by_cases hne : N = M
  · have HNM := Lib.hid hne
    have hnm : ((N : Int) != (M : Int)) = false := by rw [hne]; simp
    clear hne
    go_enter Try.func23, Try.ntmps23
    go_wp2
    go_loopw [17] (fun i W => AlikeRel w xs ys i W) (fun i _ => N - (intOf i).toNat)
    case atStart => exact H0.out
    case round =>
      clear H0
      obtain ⟨k, hk, rfl, hE, hB⟩ := hrel
      by_cases hlt : k < N
      · have hkl : k < xs.length := by rw [← HN.out]; exact hlt
        have hkm : k < ys.length := by rw [← HM.out, ← HNM.out]; exact hlt
        have hkM : (k : Int) < M := by have := HNM.out; omega
        obtain ⟨lb, lo, rfl, hat⟩ := HX.out.some (by omega)
        obtain ⟨cs, hc, a, rfl, ha⟩ := hat k hkl
        obtain ⟨lb', lo', rfl, hat'⟩ := HY.out.some (by omega)
        obtain ⟨cs', hc', a', rfl, ha'⟩ := hat' k hkm
        have c0 := (hc.below hB).one
        have d0 := (hc'.below hB).one
        simp only [KBytes, Nat.mul_one] at c0 d0
        obtain ⟨qa, ca, rfl, _⟩ := ha.any
        obtain ⟨qa', ca', rfl, _⟩ := ha'.any
        have HNO := Lib.hid (alike_no hkl hkm)
        have HYE := Lib.hid (fun h => alike_next hkl hkm h hE)
        generalize xs[k] = x at *
        generalize ys[k] = y at *
        have HB := Lib.hid hB; have HK := Lib.hid hlt
        have HF := Lib.hid (fun (W : World) (hW : Below w.heap.size w W) => equal_any _ _ x y W (ha.below hW) (ha'.below hW))
        clear ha ha' hE hB hc hat hc' hat' hk hkl hkm
        generalize x.length = l1 at *
        generalize y.length = l3 at *
        go_wp2_with fail
        refine (HF.out _ HB.out).mono ?_
        rintro e w1 ⟨rfl, rfl⟩
        have HB1 := HB
        cases he : decide (x = y) with
        | false =>
          have E : Hid (decide (xs = ys) = false) := HNO.out he
          go_wp2
          go_ret
          exact ⟨by rw [E.out]; rfl, HB1.out⟩
        | true =>
          have HNX : Hid (AlikeRel w xs ys (.int .i64 (k + 1 : Nat)) w1) := ⟨k + 1, by have := HN.out; have := HK.out; omega, rfl, HYE.out he, HB1.out⟩
          go_wp2
          go_roundw
          case rel => exact HNX.out
          case measure => simp [intOf]; have := HK.out; omega
      · obtain rfl : k = N := by have := HN.out; omega
        have E : Hid (decide (xs = ys) = true) := alike_yes (by rw [← HN.out, ← HM.out]; exact HNM.out) (by rw [← HN.out]; exact hE)
        have HB := Lib.hid hB
        clear hE hB
        go_wp2
        go_ret
        exact ⟨by rw [E.out]; rfl, HB.out⟩
  · have E : Hid (decide (xs = ys) = false) := alike_len (by rw [← HN.out, ← HM.out]; exact hne)
    have hnm : ((N : Int) != (M : Int)) = true := by simp; omega
    clear hne
    go_enter Try.func23, Try.ntmps23
    go_wp2
    go_ret
    exact ⟨by rw [E.out]; rfl, Below.refl _ _⟩
theorem ref_part0 (x y : Value) (w : World) : (part 2 #[x, y] 0).run Try.prog w = .ok x w := by kernel_rfl
theorem ref_part1 (x y : Value) (w : World) : (part 39 #[x, y] 1).run Try.prog w = .ok y w := by kernel_rfl
set_option maxRecDepth 1000000 in
theorem ref_fields : ∃ f0 f1 : Field, (Try.prog.fieldsOf 41).toList = [f0, f1] ∧ (f0.name = "Off" ∧ f1.name = "Count") ∧ (f0.offset = 0 ∧ f1.offset = 1) ∧ (f0.type = 2 ∧ f1.type = 39) :=
  ⟨_, _, rfl, ⟨rfl, rfl⟩, ⟨rfl, rfl⟩, ⟨rfl, rfl⟩⟩
theorem ref_neq (a b : Int) (c d : Nat) (w : World) : (binOp .neq 41 (.agg #[.int .i64 a, .int .u64 (c : Nat)]) (.agg #[.int .i64 b, .int .u64 (d : Nat)])).run Try.prog w = .ok (.bool (!(decide ((⟨a, c⟩ : NKd) = ⟨b, d⟩)))) w := by
  have e : decide ((⟨a, c⟩ : NKd) = ⟨b, d⟩) = ((a == b) && ((c : Int) == (d : Int))) := by
    rw [Bool.eq_iff_iff]
    simp [Int.natCast_inj]
  obtain ⟨f0, f1, hf, ⟨m0, m1⟩, ⟨o0, o1⟩, ⟨t0, t1⟩⟩ := ref_fields
  have n0 : f0.name ≠ "_" := by rw [m0]; decide
  have n1 : f1.name ≠ "_" := by rw [m1]; decide
  rw [e, run_neq_struct, run_equalIn_struct _ _ _ _ _ (by kernel_rfl) (by kernel_rfl), hf]
  simp only [Op.eqFields, n0, n1, o0, o1, t0, t1, ne_eq, not_false_eq_true, if_true, Sem.run_bind, ref_part0, ref_part1, Result.andThen_ok]
  rw [run_equalIn_int w 9998 2 .i64 .i64 a b (by kernel_rfl)]
  simp only [Result.andThen_ok]
  cases a == b with
  | false => simp
  | true =>
    simp only [Bool.not_true, Bool.false_eq_true, if_false, Sem.run_bind, ref_part0, ref_part1, Result.andThen_ok]
    rw [run_equalIn_int w 9998 39 .u64 .u64 _ _ (by kernel_rfl)]
    cases (c : Int) == (d : Int) <;> simp
set_option maxRecDepth 100000 in
theorem eqRefs_any (p q : Option Addr) (c d : Nat) (xs ys : List NKd) (w : World) (hx : RowAt KRef w p c xs) (hy : RowAt KRef w q d ys) :
    Calls Try.prog 25 #[.slice p xs.length c, .slice q ys.length d] w fun e w' => e = .returned (.bool (decide (xs = ys))) ∧ Below w.heap.size w w' := by
  have h0 : AlikeRel w xs ys (.int .i64 (0 : Nat)) w := ⟨0, by omega, rfl, fun j hj => absurd hj (by omega), Below.refl _ _⟩
  have H0 := Lib.hid h0; have HX := Lib.hid hx; have HY := Lib.hid hy
  obtain ⟨N, hN⟩ : ∃ N, N = xs.length := ⟨_, rfl⟩
  obtain ⟨M, hM⟩ : ∃ M, M = ys.length := ⟨_, rfl⟩
  have hN9 : (N : Int) ≤ 9223372036854775807 := by have := hx.le; have := hx.most; unfold maxLen at this; omega
  have HN := Lib.hid hN; have HM := Lib.hid hM
  rw [← hN, ← hM]
  clear h0 hx hy hN hM
  by_cases hne : N = M
  · have HNM := Lib.hid hne
    have hnm : ((N : Int) != (M : Int)) = false := by rw [hne]; simp
    clear hne
    go_enter Try.func25, Try.ntmps25
    go_wp2
    go_loopw [13] (fun i W => AlikeRel w xs ys i W) (fun i _ => N - (intOf i).toNat)
    case atStart => exact H0.out
    case round =>
      clear H0
      obtain ⟨k, hk, rfl, hE, hB⟩ := hrel
      by_cases hlt : k < N
      · have hkl : k < xs.length := by rw [← HN.out]; exact hlt
        have hkm : k < ys.length := by rw [← HM.out, ← HNM.out]; exact hlt
        have hkM : (k : Int) < M := by have := HNM.out; omega
        obtain ⟨lb, lo, rfl, hat⟩ := HX.out.some (by omega)
        obtain ⟨cs, hc, rfl, _, _⟩ := hat k hkl
        obtain ⟨lb', lo', rfl, hat'⟩ := HY.out.some (by omega)
        obtain ⟨cs', hc', rfl, _, _⟩ := hat' k hkm
        obtain ⟨c0, c1⟩ := (hc.below hB).two
        obtain ⟨d0, d1⟩ := (hc'.below hB).two
        simp only [KRef] at c0 c1 d0 d1
        have HNO := Lib.hid (alike_no hkl hkm)
        have HYE := Lib.hid (fun h => alike_next hkl hkm h hE)
        generalize xs[k] = x at *
        generalize ys[k] = y at *
        have HB := Lib.hid hB; have HK := Lib.hid hlt
        obtain ⟨o1, t1⟩ := x
        obtain ⟨o2, t2⟩ := y
        simp only at c0 c1 d0 d1
        have hne := fun (w : World) => ref_neq o1 o2 t1 t2 w
        clear hE hB hc hat hc' hat' hk hkl hkm
        cases he : decide ((⟨o1, t1⟩ : NKd) = ⟨o2, t2⟩) with
        | false =>
          have E : Hid (decide (xs = ys) = false) := HNO.out he
          rw [he] at hne
          go_wp2
          go_quiet (fail)
          go_wp2
          go_ret
          exact ⟨by rw [E.out]; rfl, HB.out.trans (below_drewN _ _)⟩
        | true =>
          have HNX : Hid (∀ nq, AlikeRel w xs ys (.int .i64 (k + 1 : Nat)) (wr.drewN nq)) := fun nq => ⟨k + 1, by have := HN.out; have := HK.out; omega, rfl, HYE.out he, HB.out.trans (below_drewN _ nq)⟩
          rw [he] at hne
          go_wp2
          go_quiet (fail)
          go_wp2
          go_roundw
          case rel => exact HNX.out _
          case measure => simp [intOf]; have := HK.out; omega
      · obtain rfl : k = N := by have := HN.out; omega
        have E : Hid (decide (xs = ys) = true) := alike_yes (by rw [← HN.out, ← HM.out]; exact HNM.out) (by rw [← HN.out]; exact hE)
        have HB := Lib.hid hB
        clear hE hB
        go_wp2
        go_ret
        exact ⟨by rw [E.out]; rfl, HB.out⟩
  · have E : Hid (decide (xs = ys) = false) := alike_len (by rw [← HN.out, ← HM.out]; exact hne)
    have hnm : ((N : Int) != (M : Int)) = true := by simp; omega
    clear hne
    go_enter Try.func25, Try.ntmps25
    go_wp2
    go_ret
    exact ⟨by rw [E.out]; rfl, Below.refl _ _⟩
end Go.Proofs.Ytbjjaabmdjbodaa

