/- Items in a program: are rows of items the same, by the document. -/
import Derived.Test.YtajfcnaifegonaaMTrX
import Derived.Test.YtajfcnaifegonaaMTrL
namespace Go.Proofs.Ytajfcnaifegonaa.Sl.Nd
open Go Go.RowKit Go.By
theorem eqi_str {a b : List Nat} (ha : ∀ c ∈ a, c < 256) (hb : ∀ c ∈ b, c < 256) : ((strOf a).toList != (strOf b).toList) = !decide (a = b) := by
  unfold bne
  rw [eq_str, natsOf_strOf ha, natsOf_strOf hb]
def SiRel (w : World) (a b : List NIt) (i : Value) (W : World) : Prop :=
  ∃ k : Nat, k ≤ a.length ∧ i = .int .i64 k ∧ a.take k = b.take k ∧ Below w.heap.size w W
set_option maxRecDepth 100000 in
set_option maxHeartbeats 4000000 in
theorem sameItems_any {w : World} {pi pj : Option Addr} {ci cj : Nat} {a b : List NIt} (ha : RowAt KItem w pi ci a) (hb : RowAt KItem w pj cj b) :
    Calls Try.prog 13 #[.slice pi a.length ci, .slice pj b.length cj] w (TruthTold w (decide (a = b))) := by
  have HF : Hid (∀ (W : World) (x : Bool), Below w.heap.size w W → x = decide (a = b) → TruthTold w (decide (a = b)) (.returned (.bool x)) W) := fun W x h1 h2 => ⟨by rw [h2], h1⟩
  have hl1 := ha.le; have hl2 := ha.most; have hl3 := hb.le; have hl4 := hb.most
  unfold maxLen at hl2 hl4
  have HA := Lib.hid ha; have HBB := Lib.hid hb
  by_cases hne : a.length = b.length
  · obtain ⟨L, hL⟩ : ∃ x, x = a.length := ⟨_, rfl⟩
    have hM : L = b.length := by omega
    rw [← hL, ← hM]
    have HL := Lib.hid hL; have HM := Lib.hid hM
    have q90 : (L : Int) ≤ 9223372036854775807 := by omega
    have H0 : Hid (SiRel w a b (.int .i64 (0 : Nat)) w) := ⟨0, Nat.zero_le _, rfl, rfl, Below.refl _ _⟩
    clear ha hb hl1 hl2 hl3 hl4 hL hM hne
    go_enter Try.func13, Try.ntmps13
    go_wp2
    go_loopw [5] (fun i W' => SiRel w a b i W') (fun i _ => L - (intOf i).toNat)
    case atStart => exact H0.out
    case round =>
      clear H0
      obtain ⟨i, hi, rfl, hls, hB⟩ := hrel
      by_cases hlt : i < L
      · have hia : i < a.length := by rw [← HL.out]; exact hlt
        have hib : i < b.length := by rw [← HM.out]; exact hlt
        have hii : (i : Int) < L := by omega
        obtain ⟨lb, lo, rfl, hat⟩ := HA.out.some (by omega)
        obtain ⟨cs, hc, va, vb, rfl, h1, h2⟩ := hat i hia
        obtain ⟨mb, mo, rfl, hat'⟩ := HBB.out.some (by omega)
        obtain ⟨cs', hc', vc, vd, rfl, h3, h4⟩ := hat' i hib
        have HLT := Lib.hid hlt
        have hup : ∀ wz, Below wr.heap.size wr wz → Below w.heap.size w wz := fun wz hz => hB.trans (hz.mono hB.size)
        have HUP := Lib.hid hup
        have hyes : a[i] = b[i] → ∀ wz, Below wr.heap.size wr wz → SiRel w a b (.int .i64 (i + 1 : Nat)) wz := fun hq wz hz => ⟨i + 1, hia, rfl, by rw [List.take_succ_eq_append_getElem hia, List.take_succ_eq_append_getElem hib, hls, hq], HUP.out wz hz⟩
        have hno : a[i] ≠ b[i] → false = decide (a = b) := fun hq => (decide_eq_false (fun e => hq (by simp only [e]))).symm
        have HCS : Hid (∀ wz, Below wr.heap.size wr wz → (wz.cell? ⟨lb, lo + i * 2, none⟩ = some va ∧ wz.cell? ⟨lb, lo + i * 2 + 1, none⟩ = some vb) ∧ (wz.cell? ⟨mb, mo + i * 2, none⟩ = some vc ∧ wz.cell? ⟨mb, mo + i * 2 + 1, none⟩ = some vd)) := fun wz hz => ⟨(hc.below (hup wz hz)).two, (hc'.below (hup wz hz)).two⟩
        have hst : ∀ {v : Value} {l : List Nat}, Bytes w v l → ∀ wz, Below wr.heap.size wr wz → Bytes wz v l := fun hx wz hz => hx.below (hup wz hz)
        have HK1 := Lib.hid (hst h1); have HK2 := Lib.hid (hst h2); have HK3 := Lib.hid (hst h3); have HK4 := Lib.hid (hst h4)
        have e13 := eqi_str h1.small h3.small
        have e24 := eqi_str h2.small h4.small
        have hexx : a[i] = b[i] ↔ a[i].k = b[i].k ∧ a[i].v = b[i].v := by
          constructor
          · intro e; rw [e]; exact ⟨rfl, rfl⟩
          · intro e
            obtain ⟨x1, x2⟩ := e
            cases hx : a[i]; cases hy : b[i]
            rw [hx, hy] at x1 x2
            simp only at x1 x2
            rw [x1, x2]
        obtain ⟨qa, ca, rfl, -⟩ := h1.any
        obtain ⟨qb, cb, rfl, -⟩ := h2.any
        obtain ⟨qc, cc, rfl, -⟩ := h3.any
        obtain ⟨qd, cd, rfl, -⟩ := h4.any
        obtain ⟨k1, hk1⟩ : ∃ x, x = a[i].k := ⟨_, rfl⟩
        obtain ⟨k2, hk2⟩ : ∃ x, x = a[i].v := ⟨_, rfl⟩
        obtain ⟨k3, hk3⟩ : ∃ x, x = b[i].k := ⟨_, rfl⟩
        obtain ⟨k4, hk4⟩ : ∃ x, x = b[i].v := ⟨_, rfl⟩
        rw [← hk1, ← hk3] at e13 hexx
        rw [← hk2, ← hk4] at e24 hexx
        rw [← hk1] at HK1 HCS
        rw [← hk2] at HK2 HCS
        rw [← hk3] at HK3 HCS
        rw [← hk4] at HK4 HCS
        generalize k1.length = l1 at *
        generalize k2.length = l2 at *
        generalize k3.length = l3 at *
        generalize k4.length = l4 at *
        by_cases hk : k1 = k3
        · have HNQ : Hid (((strOf k1).toList != (strOf k3).toList) = false) := by unfold Hid; rw [e13, decide_eq_true hk]; rfl
          obtain ⟨X, hX⟩ : ∃ X, X = !decide (k2 = k4) := ⟨_, rfl⟩
          have HN2 : Hid (((strOf k2).toList != (strOf k4).toList) = X) := by unfold Hid; rw [e24, hX]
          have HY : Hid (X = false → ∀ wz, Below wr.heap.size wr wz → SiRel w a b (.int .i64 (i + 1 : Nat)) wz) := fun hx => hyes (hexx.2 ⟨hk, by rw [hX] at hx; simpa using hx⟩)
          have HN : Hid (X = true → false = decide (a = b)) := fun hx => hno (fun e => by rw [hX, decide_eq_true (hexx.1 e).2] at hx; cases hx)
          clear e13 e24 hexx hk1 hk2 hk3 hk4 hk hyes hno h1 h2 h3 h4 hc hc' hat hat' hls hia hib hi hlt hst hup hX
          go_wp2_with fail
          rename_i Kc hKc
          refine wp_region_left (by kernel_rfl)
            [.is (.slice (some ⟨lb, lo, none⟩) L ci), .is (.int .i64 (i : Nat)), .is (.pointer (some ⟨lb, lo + i * 2, none⟩)), .is (.pointer (some ⟨lb, lo + i * 2, none⟩)), .is (.slice qa l1 ca), .is (.string (strOf k1)), .is (.slice (some ⟨mb, mo, none⟩) L cj), .is (.int .i64 (i : Nat)), .is (.pointer (some ⟨mb, mo + i * 2, none⟩)), .is (.pointer (some ⟨mb, mo + i * 2, none⟩)), .is (.slice qc l3 cc), .is (.string (strOf k3)), .is (.bool false), .is (.bool false), .is (.slice (some ⟨lb, lo, none⟩) L ci), .is (.int .i64 (i : Nat)), .is (.pointer (some ⟨lb, lo + i * 2, none⟩)), .is (.pointer (some ⟨lb, lo + i * 2 + 1, none⟩)), .is (.slice qb l2 cb), .is (.string (strOf k2)), .is (.slice (some ⟨mb, mo, none⟩) L cj), .is (.int .i64 (i : Nat)), .is (.pointer (some ⟨mb, mo + i * 2, none⟩)), .is (.pointer (some ⟨mb, mo + i * 2 + 1, none⟩)), .is (.slice qd l4 cd), .is (.string (strOf k4)), .is (.bool X), .is (.bool X)]
            [[],[],[0,1],[2],[3],[4],[],[],[6,7],[8],[9],[10],[5,11],[12],[13],[13],[13,14,15],[13,16],[13,17],[13,18],[13],[13],[13,20,21],[13,22],[13,23],[13,24],[13,19,25],[13,26]] (by kernel_rfl) (by rfl) ?_ ?_
          · repeat' (first | exact LeftOps.nil | refine LeftOps.cons ?_ ?_)
            all_goals (intro wz hwz; clear hKc; try ((repeat (refine withLeft_is rfl rfl ?_)); (with_reducible refine withLeft_nil ?_); (try simp only [Act.put, arr0, arr1, arr2]); (try first | refine lft_run rfl rfl ?_ | refine lft_want rfl rfl rfl rfl ?_)))
            · exact lmv
            · exact lmv
            · unfold LftRun; go_wp2; exact lend
            · unfold LftRun; go_wp2; exact lend
            · have hcs := HCS.out wz hwz; obtain ⟨⟨e0, e1⟩, e2, e3⟩ := hcs; unfold LftRun; go_wp2; exact lend
            · have hcv := (HK1.out wz hwz).toString (P := Try.prog) byT (d := 9) (by kernel_rfl); unfold LftRun; go_wp2; exact lend
            · exact lmv
            · exact lmv
            · unfold LftRun; go_wp2; exact lend
            · unfold LftRun; go_wp2; exact lend
            · have hcs := HCS.out wz hwz; obtain ⟨⟨e0, e1⟩, e2, e3⟩ := hcs; unfold LftRun; go_wp2; exact lend
            · have hcv := (HK3.out wz hwz).toString (P := Try.prog) byT (d := 9) (by kernel_rfl); unfold LftRun; go_wp2; exact lend
            · unfold LftRun; go_wp2; exact ⟨rfl, (by first | rfl | exact congrArg Value.bool HNQ.out), rfl, Below.refl _ _⟩
            · exact lmv
            · exact lmv
            · exact lmv
            · unfold LftRun; go_wp2; exact lend
            · unfold LftRun; go_wp2; exact lend
            · have hcs := HCS.out wz hwz; obtain ⟨⟨e0, e1⟩, e2, e3⟩ := hcs; unfold LftRun; go_wp2; exact lend
            · have hcv := (HK2.out wz hwz).toString (P := Try.prog) byT (d := 9) (by kernel_rfl); unfold LftRun; go_wp2; exact lend
            · exact lmv
            · exact lmv
            · unfold LftRun; go_wp2; exact lend
            · unfold LftRun; go_wp2; exact lend
            · have hcs := HCS.out wz hwz; obtain ⟨⟨e0, e1⟩, e2, e3⟩ := hcs; unfold LftRun; go_wp2; exact lend
            · have hcv := (HK4.out wz hwz).toString (P := Try.prog) byT (d := 9) (by kernel_rfl); unfold LftRun; go_wp2; exact lend
            · unfold LftRun; go_wp2; exact ⟨rfl, (by first | rfl | exact congrArg Value.bool HN2.out), rfl, Below.refl _ _⟩
            · exact lpk
          intro wz hwz
          refine le8 (le8 (le8 (LeftEnd.is (LeftEnd.is (LeftEnd.is (LeftEnd.is (LeftEnd.nil ?_)))))))
          simp only [Act.put, arr0, arr1, arr2]
          refine hKc _ _ ?_
          clear hKc Kc
          cases X with
          | true =>
            go_wp2
            go_ret
            exact HF.out _ _ (HUP.out wz hwz) (HN.out (by trivial))
          | false =>
            go_wp2
            go_roundw
            case rel => exact HY.out rfl wz hwz
            case measure => simp [intOf]; have := HLT.out; omega
        · have HNQ : Hid (((strOf k1).toList != (strOf k3).toList) = true) := by unfold Hid; rw [e13, decide_eq_false hk]; rfl
          have HN := Lib.hid (hno (fun e => hk (hexx.1 e).1))
          clear e13 e24 hexx hk1 hk2 hk3 hk4 hk hyes hno h1 h2 h3 h4 hc hc' hat hat' hls hia hib hi hlt hst hup
          go_wp2_with fail
          rename_i Kc hKc
          refine wp_region_left (by kernel_rfl)
            [.is (.slice (some ⟨lb, lo, none⟩) L ci), .is (.int .i64 (i : Nat)), .is (.pointer (some ⟨lb, lo + i * 2, none⟩)), .is (.pointer (some ⟨lb, lo + i * 2, none⟩)), .is (.slice qa l1 ca), .is (.string (strOf k1)), .is (.slice (some ⟨mb, mo, none⟩) L cj), .is (.int .i64 (i : Nat)), .is (.pointer (some ⟨mb, mo + i * 2, none⟩)), .is (.pointer (some ⟨mb, mo + i * 2, none⟩)), .is (.slice qc l3 cc), .is (.string (strOf k3)), .is (.bool true), .is (.bool true), .is undef, .is undef, .is undef, .is undef, .is undef, .is undef, .is undef, .is undef, .is undef, .is undef, .is undef, .is undef, .is undef, .is (.bool true)]
            [[],[],[0,1],[2],[3],[4],[],[],[6,7],[8],[9],[10],[5,11],[12],[13],[13],[13,14,15],[13,16],[13,17],[13,18],[13],[13],[13,20,21],[13,22],[13,23],[13,24],[13,19,25],[13,26]] (by kernel_rfl) (by rfl) ?_ ?_
          · repeat' (first | exact LeftOps.nil | refine LeftOps.cons ?_ ?_)
            all_goals (intro wz hwz; clear hKc; try ((repeat (refine withLeft_is rfl rfl ?_)); (with_reducible refine withLeft_nil ?_); (try simp only [Act.put, arr0, arr1, arr2]); (try first | refine lft_run rfl rfl ?_ | refine lft_want rfl rfl rfl rfl ?_)))
            · exact lmv
            · exact lmv
            · unfold LftRun; go_wp2; exact lend
            · unfold LftRun; go_wp2; exact lend
            · have hcs := HCS.out wz hwz; obtain ⟨⟨e0, e1⟩, e2, e3⟩ := hcs; unfold LftRun; go_wp2; exact lend
            · have hcv := (HK1.out wz hwz).toString (P := Try.prog) byT (d := 9) (by kernel_rfl); unfold LftRun; go_wp2; exact lend
            · exact lmv
            · exact lmv
            · unfold LftRun; go_wp2; exact lend
            · unfold LftRun; go_wp2; exact lend
            · have hcs := HCS.out wz hwz; obtain ⟨⟨e0, e1⟩, e2, e3⟩ := hcs; unfold LftRun; go_wp2; exact lend
            · have hcv := (HK3.out wz hwz).toString (P := Try.prog) byT (d := 9) (by kernel_rfl); unfold LftRun; go_wp2; exact lend
            · unfold LftRun; go_wp2; exact ⟨rfl, (by first | rfl | exact congrArg Value.bool HNQ.out), rfl, Below.refl _ _⟩
            · exact lmv
            · exact lsk
            · exact lsk
            · exact lsk
            · exact lsk
            · exact lsk
            · exact lsk
            · exact lsk
            · exact lsk
            · exact lsk
            · exact lsk
            · exact lsk
            · exact lsk
            · exact lsk
            · exact lpk
          intro wz hwz
          refine le8 (le8 (le8 (LeftEnd.is (LeftEnd.is (LeftEnd.is (LeftEnd.is (LeftEnd.nil ?_)))))))
          simp only [Act.put, arr0, arr1, arr2]
          refine hKc _ _ ?_
          clear hKc Kc
          go_wp2
          go_ret
          exact HF.out _ _ (HUP.out wz hwz) HN.out
      · have hia : i = a.length := by have := HL.out; omega
        have hE : true = decide (a = b) := (decide_eq_true (by
          have := hls
          rw [List.take_of_length_le (by omega), List.take_of_length_le (by have := HL.out; have := HM.out; omega)] at this
          exact this)).symm
        have HE := Lib.hid (HF.out wr true hB hE)
        have hii : ¬ (i : Int) < L := by omega
        clear hls hia hE hi hlt hB
        go_wp2
        go_ret
        exact HE.out
  · have hnn : ((a.length : Int) == (b.length : Int)) = false := by
      have : ¬ (a.length : Int) = (b.length : Int) := by omega
      simpa using this
    have HE := Lib.hid (HF.out w false (Below.refl _ _) (decide_eq_false (fun e => hne (by rw [e]))).symm)
    generalize a.length = L at *
    generalize b.length = M at *
    clear ha hb hl1 hl2 hl3 hl4 hne HF HA HBB
    go_enter Try.func13, Try.ntmps13
    go_wp2
    go_ret
    exact HE.out
end Go.Proofs.Ytajfcnaifegonaa.Sl.Nd
