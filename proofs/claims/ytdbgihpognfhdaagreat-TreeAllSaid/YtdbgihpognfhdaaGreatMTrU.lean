/- Nodes in a program: how many items, by the document. -/
import Derived.Test.YtdbgihpognfhdaaGreatMTrX
import Derived.Test.YtdbgihpognfhdaaGreatMTrL
namespace Go.Proofs.YtdbgihpognfhdaaGreat.Sl.Nd
open Go Go.RowKit Go.By
def ctR (n : Nd) : Nat := if n.leaf = true then n.its.length else sumK n.kids % 18446744073709551616
def CtTold (w : World) (n : Nd) (z : Ending) (w' : World) : Prop := z = .returned (.int .u64 (ctR n : Nat)) ∧ Below w.heap.size w w'
def CtRel (w : World) (kids : List NKd) (c i : Value) (W : World) : Prop :=
  ∃ k s : Nat, k ≤ kids.length ∧ i = .int .i64 k ∧ s = sumK (kids.take k) % 18446744073709551616 ∧ c = .int .u64 s ∧ Below w.heap.size w W
theorem wrap_sum (s c : Nat) : IntKind.u64.wrap ((s : Int) + (c : Nat)) = ((s + c) % 18446744073709551616 : Nat) := by
  unfold IntKind.wrap
  rw [if_neg (by simp [IntKind.signed])]
  show ((s : Int) + (c : Nat)) % 18446744073709551616 = _
  omega
set_option maxRecDepth 100000 in
theorem ctOf_any {w : World} {v : Value} {n : Nd} {pi pk pd : Option Addr} {ci ck cd : Nat} (h : IsNd w v n pi ci pk ck pd cd) :
    Calls Tryz.prog 13 #[v] w (CtTold w n) := by
  have hv := h.val
  subst hv
  obtain ⟨W, hW⟩ : ∃ W, W = w.alloc (.cells #[.bool n.leaf, .slice pi n.its.length ci, .slice pk n.ks.length ck, .slice pd n.kids.length cd] 38) := ⟨_, rfl⟩
  have hb : Below w.heap.size w W := by rw [hW]; exact (Below.refl w.heap.size w).alloc (Nat.le_refl _) _
  have hx : NdAt W w.heap.size n pi ci pk ck pd cd := by rw [hW]; exact NdAt.new ..
  have HQ := Lib.hid (h.kids.below hb)
  have HB := Lib.hid hb; have HW := Lib.hid hW; have HNA := Lib.hid hx
  obtain ⟨n0, n1, n2, n3⟩ := hx.cells
  have hl1 := h.its.le; have hl2 := h.its.most; have hl5 := h.kids.le; have hl6 := h.kids.most
  unfold maxLen at hl2 hl6
  have HF : Hid (∀ W' (c : Nat), Below w.heap.size w W' → c = ctR n → CtTold w n (.returned (.int .u64 (c : Nat))) W') := fun W' c h1 h2 => ⟨by rw [h2], h1⟩
  cases hlf : n.leaf with
  | true =>
    have HC : Hid (n.its.length = ctR n) := by unfold Hid ctR; rw [if_pos hlf]
    rw [hlf] at n0 HW
    obtain ⟨K0, hK0⟩ : ∃ x, x = n.its.length := ⟨_, rfl⟩
    rw [← hK0] at n1 HW HC ⊢
    have q90 : (K0 : Int) ≤ 9223372036854775807 := by omega
    have q91 : (K0 : Int) < 18446744073709551616 := by omega
    have q92 : (0 : Int) ≤ K0 := by omega
    have HR := Lib.hid (HF.out W K0 HB.out HC.out)
    clear h hW hb hx hl1 hl2 hl5 hl6 HF HC hK0
    go_enter Tryz.func13, Tryz.ntmps13
    go_wp2
    rw [← HW.out]
    go_ret
    exact HR.out
  | false =>
    have HC : Hid (sumK n.kids % 18446744073709551616 = ctR n) := by unfold Hid ctR; rw [hlf]; rfl
    rw [hlf] at n0 HW
    obtain ⟨L, hL⟩ : ∃ x, x = n.kids.length := ⟨_, rfl⟩
    have HL := Lib.hid hL
    rw [← hL] at n3 HW ⊢
    have q92 : (L : Int) ≤ 9223372036854775807 := by omega
    have H0 : Hid (CtRel W n.kids (.int .u64 (0 : Nat)) (.int .i64 (0 : Nat)) W) := ⟨0, 0, Nat.zero_le _, rfl, rfl, rfl, Below.refl _ _⟩
    clear h hW hb hx hl1 hl2 hl5 hl6 n1 n2 hL
    go_enter Tryz.func13, Tryz.ntmps13
    go_wp2
    rw [← HW.out]
    go_loopw [3, 4] (fun c i W' => CtRel W n.kids c i W') (fun _ i _ => L - (intOf i).toNat)
    case atStart => exact H0.out
    case round =>
      clear H0
      obtain ⟨i, s, hi, rfl, hs, rfl, hB⟩ := hrel
      have hn1 := (hB.block _ HNA.out.lt).trans HNA.out
      have m3 := cells_of hn1 3
      simp only [List.getElem?_toArray, List.getElem?_cons_zero, List.getElem?_cons_succ] at m3
      rw [← HL.out] at m3
      by_cases hlt : i < L
      · have hil : i < n.kids.length := by rw [← HL.out]; exact hlt
        have hii : (i : Int) < L := by omega
        obtain ⟨lb, lo, rfl, hatd⟩ := HQ.out.some (by omega)
        obtain ⟨csd, hcd, rfl, hD1, hD2⟩ := hatd i hil
        obtain ⟨d0, d1⟩ := (hcd.below hB).two
        simp only [KRef] at d0 d1
        obtain ⟨CT, hCT⟩ : ∃ x, x = n.kids[i].ct := ⟨_, rfl⟩
        obtain ⟨OF, hOF⟩ : ∃ x, x = n.kids[i].off := ⟨_, rfl⟩
        have hst := sumK_take hil
        rw [← hCT] at hst
        rw [← hCT] at d1
        rw [← hOF] at d0
        have HNX : Hid (∀ x : Int, x = ((s + CT) % 18446744073709551616 : Nat) → CtRel W n.kids (.int .u64 x) (.int .i64 (i + 1 : Nat)) wr) := fun x hx => ⟨i + 1, (s + CT) % 18446744073709551616, hil, rfl, by rw [hst, hs, Nat.mod_add_mod], by rw [hx], hB⟩
        clear hcd hatd hD1 hD2 hst hCT hOF hn1
        have HLT := Lib.hid hlt
        clear hs hi hB
        go_wp2
        go_roundw
        case rel =>
          apply HNX.out
          exact wrap_sum s CT
        case measure => simp [intOf]; have := HLT.out; omega
      · have hii : ¬ (i : Int) < L := by omega
        have hie : i = n.kids.length := by have := HL.out; omega
        have HR := Lib.hid (HF.out wr s (HB.out.trans (hB.mono HB.out.size)) (by rw [← HC.out, hs, hie, List.take_length]))
        clear hs hi hB hlt hn1
        go_wp2
        go_ret
        exact HR.out
end Go.Proofs.YtdbgihpognfhdaaGreat.Sl.Nd
/- Trees in a program: a key sought among items, by the document. -/
namespace Go.Proofs.YtdbgihpognfhdaaGreat.Sl.Nd
open Go Go.RowKit Go.By
theorem lss_str {a b : List Nat} (ha : ∀ c ∈ a, c < 256) (hb : ∀ c ∈ b, c < 256) : Op.bytesLess (strOf a).toList (strOf b).toList = lessN a b := by
  rw [less_str, natsOf_strOf ha, natsOf_strOf hb]
theorem eqs_str {a b : List Nat} (ha : ∀ c ∈ a, c < 256) (hb : ∀ c ∈ b, c < 256) : ((strOf a).toList == (strOf b).toList) = decide (a = b) := by
  rw [eq_str, natsOf_strOf ha, natsOf_strOf hb]
def FiTold (w : World) (its : List NIt) (key : List Nat) (z : Ending) (w' : World) : Prop :=
  z = .returned (.tuple #[.int .i64 (atN (its.map (·.k)) key : Nat), .bool (isN (its.map (·.k)) key)]) ∧ Below w.heap.size w w'
def FiRel (w : World) (its : List NIt) (key : List Nat) (i : Value) (W : World) : Prop :=
  ∃ k : Nat, k ≤ its.length ∧ i = .int .i64 k ∧ (∀ j (h : j < its.length), j < k → lessN its[j].k key = true) ∧ Below w.heap.size w W
set_option maxRecDepth 100000 in
set_option maxHeartbeats 4000000 in
theorem refFind_any {w : World} {pi : Option Addr} {ci : Nat} {its : List NIt} {kv : Value} {key : List Nat} (hr : RowAt KItem w pi ci its) (hk : Bytes w kv key) :
    Calls Tryz.prog 18 #[.slice pi its.length ci, kv] w (FiTold w its key) := by
  have HF : Hid (∀ (W : World) (k : Nat) (b : Bool), Below w.heap.size w W → k = atN (its.map (·.k)) key → b = isN (its.map (·.k)) key → FiTold w its key (.returned (.tuple #[.int .i64 k, .bool b])) W) := fun W k b h1 h2 h3 => ⟨by rw [h2, h3], h1⟩
  have hl1 := hr.le; have hl2 := hr.most
  unfold maxLen at hl2
  have HR := Lib.hid hr; have HKB := Lib.hid hk
  obtain ⟨kp, kc, rfl, -⟩ := hk.any
  obtain ⟨KL, hKL⟩ : ∃ x, x = key.length := ⟨_, rfl⟩
  obtain ⟨L, hL⟩ : ∃ x, x = its.length := ⟨_, rfl⟩
  rw [← hL, ← hKL]
  rw [← hKL] at HKB
  have HL := Lib.hid hL
  have q90 : (L : Int) ≤ 9223372036854775807 := by omega
  have H0 : Hid (FiRel w its key (.int .i64 (0 : Nat)) w) := ⟨0, Nat.zero_le _, rfl, fun j _ h => absurd h (Nat.not_lt_zero _), Below.refl _ _⟩
  have HKS : Hid (∀ c ∈ key, c < 256) := hk.small
  clear hr hk hl1 hl2 hKL hL
  go_enter Tryz.func18, Tryz.ntmps18
  go_wp2
  go_loopw [6] (fun i W' => FiRel w its key i W') (fun i _ => L - (intOf i).toNat)
  case atStart => exact H0.out
  case round =>
    clear H0
    obtain ⟨i, hi, rfl, hls, hB⟩ := hrel
    by_cases hlt : i < L
    · have hil : i < its.length := by rw [← HL.out]; exact hlt
      have hii : (i : Int) < L := by omega
      have hid : decide ((i : Int) < L) = true := decide_eq_true hii
      obtain ⟨lb, lo, rfl, hat⟩ := HR.out.some (by omega)
      obtain ⟨cs, hc, va, vb, rfl, ha, hb⟩ := hat i hil
      have HLT := Lib.hid hlt
      have hup : ∀ wz, Below wr.heap.size wr wz → Below w.heap.size w wz := fun wz hz => hB.trans (hz.mono hB.size)
      have HK1 : Hid (∀ wz, Below wr.heap.size wr wz → Bytes wz va its[i].k) := fun wz hz => ha.below (hup wz hz)
      have HKY : Hid (∀ wz, Below wr.heap.size wr wz → Bytes wz (.slice kp KL kc) key) := fun wz hz => HKB.out.below (hup wz hz)
      have hcs : ∀ wz, Below wr.heap.size wr wz → wz.cell? ⟨lb, lo + i * 2, none⟩ = some va := fun wz hz => (hc.below (hup wz hz)).two.1
      have HUP := Lib.hid hup
      have hyes : lessN its[i].k key = true → ∀ wz, Below wr.heap.size wr wz → FiRel w its key (.int .i64 (i + 1 : Nat)) wz := fun hq wz hz => ⟨i + 1, hil, rfl, fun j h hj => by
        by_cases hji : j < i
        · exact hls j h hji
        · obtain rfl : j = i := by omega
          exact hq, HUP.out wz hz⟩
      have hat' : lessN its[i].k key = false → i = atN (its.map (·.k)) key := fun hq => (atN_of (by rw [List.length_map]; omega) (fun j h hj => by rw [List.getElem_map]; exact hls j (by rw [List.length_map] at h; exact h) hj) (fun h => by rw [List.getElem_map]; exact hq)).symm
      have his : lessN its[i].k key = false → decide (its[i].k = key) = isN (its.map (·.k)) key := fun hq => by
        unfold isN
        rw [← hat' hq, List.getElem?_eq_getElem (by rw [List.length_map]; exact hil), List.getElem_map]
        simp
      obtain ⟨qa, ca, rfl, -⟩ := ha.any
      obtain ⟨k1, hk1⟩ : ∃ x, x = its[i].k := ⟨_, rfl⟩
      have has := ha.small
      rw [← hk1] at HK1 hcs hyes hat' his has
      obtain ⟨l1, hl1⟩ : ∃ x, x = k1.length := ⟨_, rfl⟩
      rw [← hl1] at HK1 hcs
      have HLQ : Hid (Op.bytesLess (strOf k1).toList (strOf key).toList = lessN k1 key) := lss_str has HKS.out
      have HEQ : Hid (((strOf k1).toList == (strOf key).toList) = decide (k1 = key)) := eqs_str has HKS.out
      have HCS := Lib.hid hcs
      cases hlq : lessN k1 key with
      | true =>
        rw [hlq] at HLQ
        have HNX := Lib.hid (hyes hlq)
        clear hyes hat' his hcs hk1 hl1 ha hb hc hat hB hi hls hlt hil has hlq hup HEQ
        go_wp2_with fail
        rename_i Kc hKc
        refine wp_region_left (by kernel_rfl)
          [.is (.int .i64 (i : Nat)), .is (.slice (some ⟨lb, lo, none⟩) L ci), .is (.int .i64 (L : Nat)), .is (.bool true), .is (.bool true), .is (.slice (some ⟨lb, lo, none⟩) L ci), .is (.int .i64 (i : Nat)), .is (.pointer (some ⟨lb, lo + i * 2, none⟩)), .is (.pointer (some ⟨lb, lo + i * 2, none⟩)), .is (.slice qa l1 ca), .is (.string (strOf k1)), .is (.slice kp KL kc), .is (.string (strOf key)), .is (.bool true), .is (.bool true)]
          [[],[],[1],[0,2],[3],[4],[4],[4,5,6],[4,7],[4,8],[4,9],[4],[4,11],[4,10,12],[4,13]] (by kernel_rfl) (by rfl) ?_ ?_
        · repeat' (first | exact LeftOps.nil | refine LeftOps.cons ?_ ?_)
          all_goals (intro wz hwz; clear hKc; try ((repeat (refine withLeft_is rfl rfl ?_)); (with_reducible refine withLeft_nil ?_); (try simp only [Act.put, arr0, arr1, arr2]); (try first | refine lft_run rfl rfl ?_ | refine lft_want rfl rfl rfl rfl ?_)))
          · exact lmv
          · exact lmv
          · unfold LftRun; go_wp2; exact lend
          · unfold LftRun; go_wp2; exact lend
          · exact lmv
          · exact lmv
          · exact lmv
          · unfold LftRun; go_wp2; exact lend
          · unfold LftRun; go_wp2; exact lend
          · have e0 := HCS.out wz hwz; unfold LftRun; go_wp2; exact lend
          · have hcv := (HK1.out wz hwz).toString (P := Tryz.prog) byT (d := 9) (by kernel_rfl); unfold LftRun; go_wp2; exact lend
          · exact lmv
          · have hcv := (HKY.out wz hwz).toString (P := Tryz.prog) byT (d := 9) (by kernel_rfl); unfold LftRun; go_wp2; exact lend
          · unfold LftRun; go_wp2; exact ⟨rfl, congrArg Value.bool HLQ.out, rfl, Below.refl _ _⟩
          · exact lpk
        intro wz hwz
        refine le8 (LeftEnd.is (LeftEnd.is (LeftEnd.is (LeftEnd.is (LeftEnd.is (LeftEnd.is (LeftEnd.is (LeftEnd.nil ?_))))))))
        simp only [Act.put, arr0, arr1, arr2]
        refine hKc _ _ ?_
        clear hKc Kc
        go_wp2
        go_roundw
        case rel => exact HNX.out wz hwz
        case measure => simp [intOf]; have := HLT.out; omega
      | false =>
        rw [hlq] at HLQ
        have HAT := Lib.hid (hat' hlq); have HIS := Lib.hid (his hlq)
        clear hyes hat' his hcs hk1 hl1 ha hb hc hat hi hls hlt hil has hlq hup
        go_wp2_with fail
        rename_i Kc hKc
        refine wp_region_left (by kernel_rfl)
          [.is (.int .i64 (i : Nat)), .is (.slice (some ⟨lb, lo, none⟩) L ci), .is (.int .i64 (L : Nat)), .is (.bool true), .is (.bool true), .is (.slice (some ⟨lb, lo, none⟩) L ci), .is (.int .i64 (i : Nat)), .is (.pointer (some ⟨lb, lo + i * 2, none⟩)), .is (.pointer (some ⟨lb, lo + i * 2, none⟩)), .is (.slice qa l1 ca), .is (.string (strOf k1)), .is (.slice kp KL kc), .is (.string (strOf key)), .is (.bool false), .is (.bool false)]
          [[],[],[1],[0,2],[3],[4],[4],[4,5,6],[4,7],[4,8],[4,9],[4],[4,11],[4,10,12],[4,13]] (by kernel_rfl) (by rfl) ?_ ?_
        · repeat' (first | exact LeftOps.nil | refine LeftOps.cons ?_ ?_)
          all_goals (intro wz hwz; clear hKc; try ((repeat (refine withLeft_is rfl rfl ?_)); (with_reducible refine withLeft_nil ?_); (try simp only [Act.put, arr0, arr1, arr2]); (try first | refine lft_run rfl rfl ?_ | refine lft_want rfl rfl rfl rfl ?_)))
          · exact lmv
          · exact lmv
          · unfold LftRun; go_wp2; exact lend
          · unfold LftRun; go_wp2; exact lend
          · exact lmv
          · exact lmv
          · exact lmv
          · unfold LftRun; go_wp2; exact lend
          · unfold LftRun; go_wp2; exact lend
          · have e0 := HCS.out wz hwz; unfold LftRun; go_wp2; exact lend
          · have hcv := (HK1.out wz hwz).toString (P := Tryz.prog) byT (d := 9) (by kernel_rfl); unfold LftRun; go_wp2; exact lend
          · exact lmv
          · have hcv := (HKY.out wz hwz).toString (P := Tryz.prog) byT (d := 9) (by kernel_rfl); unfold LftRun; go_wp2; exact lend
          · unfold LftRun; go_wp2; exact ⟨rfl, congrArg Value.bool HLQ.out, rfl, Below.refl _ _⟩
          · exact lpk
        intro wz hwz
        refine le8 (LeftEnd.is (LeftEnd.is (LeftEnd.is (LeftEnd.is (LeftEnd.is (LeftEnd.is (LeftEnd.is (LeftEnd.nil ?_))))))))
        simp only [Act.put, arr0, arr1, arr2]
        refine hKc _ _ ?_
        clear hKc Kc
        go_wp2
        cases hqe : decide (k1 = key) with
        | true =>
          rw [hqe] at HEQ HIS
          have HEND : Hid (∀ wy, Below wz.heap.size wz wy → FiTold w its key (.returned (.tuple #[.int .i64 i, .bool true])) wy) := fun wy hy => HF.out wy i true (HUP.out wy (hwz.trans (hy.mono hwz.size))) HAT.out HIS.out
          clear hqe HLQ
          go_wp2_with fail
          rename_i Kc hKc
          refine wp_region_left (by kernel_rfl)
            [.is (.int .i64 (i : Nat)), .is (.int .i64 (i : Nat)), .is (.slice (some ⟨lb, lo, none⟩) L ci), .is (.int .i64 (L : Nat)), .is (.bool true), .is (.bool true), .is (.slice (some ⟨lb, lo, none⟩) L ci), .is (.int .i64 (i : Nat)), .is (.pointer (some ⟨lb, lo + i * 2, none⟩)), .is (.pointer (some ⟨lb, lo + i * 2, none⟩)), .is (.slice qa l1 ca), .is (.string (strOf k1)), .is (.slice kp KL kc), .is (.string (strOf key)), .is (.bool true), .is (.bool true), .is (.int .i64 (i : Nat)), .is (.bool true)]
            [[],[],[],[2],[1,3],[4],[5],[5],[5,6,7],[5,8],[5,9],[5,10],[5],[5,12],[5,11,13],[5,14],[0],[15]] (by kernel_rfl) (by rfl) ?_ ?_
          · repeat' (first | exact LeftOps.nil | refine LeftOps.cons ?_ ?_)
            all_goals (intro wy hwy; clear hKc; try ((repeat (refine withLeft_is rfl rfl ?_)); (with_reducible refine withLeft_nil ?_); (try simp only [Act.put, arr0, arr1, arr2]); (try first | refine lft_run rfl rfl ?_ | refine lft_want rfl rfl rfl rfl ?_)))
            · exact lmv
            · exact lmv
            · exact lmv
            · unfold LftRun; go_wp2; exact lend
            · unfold LftRun; go_wp2; exact lend
            · exact lmv
            · exact lmv
            · exact lmv
            · unfold LftRun; go_wp2; exact lend
            · unfold LftRun; go_wp2; exact lend
            · have e0 := HCS.out wy (hwz.trans (hwy.mono hwz.size)); unfold LftRun; go_wp2; exact lend
            · have hcv := (HK1.out wy (hwz.trans (hwy.mono hwz.size))).toString (P := Tryz.prog) byT (d := 9) (by kernel_rfl); unfold LftRun; go_wp2; exact lend
            · exact lmv
            · have hcv := (HKY.out wy (hwz.trans (hwy.mono hwz.size))).toString (P := Tryz.prog) byT (d := 9) (by kernel_rfl); unfold LftRun; go_wp2; exact lend
            · unfold LftRun; go_wp2; exact ⟨rfl, congrArg Value.bool HEQ.out, rfl, Below.refl _ _⟩
            · exact lpk
            · exact las
            · exact las
          intro wy hwy
          refine le8 (le8 (LeftEnd.is (LeftEnd.is (LeftEnd.nil ?_))))
          simp only [Act.put, arr0, arr1, arr2]
          refine hKc _ _ ?_
          clear hKc Kc
          go_wp2
          go_ret2
          exact HEND.out wy hwy
        | false =>
          rw [hqe] at HEQ HIS
          have HEND : Hid (∀ wy, Below wz.heap.size wz wy → FiTold w its key (.returned (.tuple #[.int .i64 i, .bool false])) wy) := fun wy hy => HF.out wy i false (HUP.out wy (hwz.trans (hy.mono hwz.size))) HAT.out HIS.out
          clear hqe HLQ
          go_wp2_with fail
          rename_i Kc hKc
          refine wp_region_left (by kernel_rfl)
            [.is (.int .i64 (i : Nat)), .is (.int .i64 (i : Nat)), .is (.slice (some ⟨lb, lo, none⟩) L ci), .is (.int .i64 (L : Nat)), .is (.bool true), .is (.bool true), .is (.slice (some ⟨lb, lo, none⟩) L ci), .is (.int .i64 (i : Nat)), .is (.pointer (some ⟨lb, lo + i * 2, none⟩)), .is (.pointer (some ⟨lb, lo + i * 2, none⟩)), .is (.slice qa l1 ca), .is (.string (strOf k1)), .is (.slice kp KL kc), .is (.string (strOf key)), .is (.bool false), .is (.bool false), .is (.int .i64 (i : Nat)), .is (.bool false)]
            [[],[],[],[2],[1,3],[4],[5],[5],[5,6,7],[5,8],[5,9],[5,10],[5],[5,12],[5,11,13],[5,14],[0],[15]] (by kernel_rfl) (by rfl) ?_ ?_
          · repeat' (first | exact LeftOps.nil | refine LeftOps.cons ?_ ?_)
            all_goals (intro wy hwy; clear hKc; try ((repeat (refine withLeft_is rfl rfl ?_)); (with_reducible refine withLeft_nil ?_); (try simp only [Act.put, arr0, arr1, arr2]); (try first | refine lft_run rfl rfl ?_ | refine lft_want rfl rfl rfl rfl ?_)))
            · exact lmv
            · exact lmv
            · exact lmv
            · unfold LftRun; go_wp2; exact lend
            · unfold LftRun; go_wp2; exact lend
            · exact lmv
            · exact lmv
            · exact lmv
            · unfold LftRun; go_wp2; exact lend
            · unfold LftRun; go_wp2; exact lend
            · have e0 := HCS.out wy (hwz.trans (hwy.mono hwz.size)); unfold LftRun; go_wp2; exact lend
            · have hcv := (HK1.out wy (hwz.trans (hwy.mono hwz.size))).toString (P := Tryz.prog) byT (d := 9) (by kernel_rfl); unfold LftRun; go_wp2; exact lend
            · exact lmv
            · have hcv := (HKY.out wy (hwz.trans (hwy.mono hwz.size))).toString (P := Tryz.prog) byT (d := 9) (by kernel_rfl); unfold LftRun; go_wp2; exact lend
            · unfold LftRun; go_wp2; exact ⟨rfl, congrArg Value.bool HEQ.out, rfl, Below.refl _ _⟩
            · exact lpk
            · exact las
            · exact las
          intro wy hwy
          refine le8 (le8 (LeftEnd.is (LeftEnd.is (LeftEnd.nil ?_))))
          simp only [Act.put, arr0, arr1, arr2]
          refine hKc _ _ ?_
          clear hKc Kc
          go_wp2
          go_ret2
          exact HEND.out wy hwy
    · have hii : ¬ (i : Int) < L := by omega
      have hid : decide ((i : Int) < L) = false := decide_eq_false hii
      have hie : i = its.length := by have := HL.out; omega
      have HAT : Hid (i = atN (its.map (·.k)) key) := (atN_of (by rw [List.length_map]; omega) (fun j h hj => by rw [List.getElem_map]; exact hls j (by rw [List.length_map] at h; exact h) hj) (fun h => by rw [List.length_map] at h; omega)).symm
      have HIS : Hid (false = isN (its.map (·.k)) key) := by
        unfold Hid isN
        rw [← HAT.out, List.getElem?_eq_none (by rw [List.length_map]; omega)]
        simp
      have HEND : Hid (∀ wy, Below wr.heap.size wr wy → FiTold w its key (.returned (.tuple #[.int .i64 i, .bool false])) wy) := fun wy hy => HF.out wy i false (hB.trans (hy.mono hB.size)) HAT.out HIS.out
      clear hls hi hie hlt hid
      go_wp2_with fail
      rename_i Kc hKc
      refine wp_region_left (by kernel_rfl)
        [.is (.int .i64 (i : Nat)), .is (.slice pi L ci), .is (.int .i64 (L : Nat)), .is (.bool false), .is (.bool false), .is undef, .is undef, .is undef, .is undef, .is undef, .is undef, .is undef, .is undef, .is undef, .is (.bool false)]
        [[],[],[1],[0,2],[3],[4],[4],[4,5,6],[4,7],[4,8],[4,9],[4],[4,11],[4,10,12],[4,13]] (by kernel_rfl) (by rfl) ?_ ?_
      · repeat' (first | exact LeftOps.nil | refine LeftOps.cons ?_ ?_)
        all_goals (intro wz hwz; clear hKc; try ((repeat (refine withLeft_is rfl rfl ?_)); (with_reducible refine withLeft_nil ?_); (try simp only [Act.put, arr0, arr1, arr2]); (try first | refine lft_run rfl rfl ?_ | refine lft_want rfl rfl rfl rfl ?_)))
        · exact lmv
        · exact lmv
        · unfold LftRun; go_wp2; exact lend
        · unfold LftRun; go_wp2; exact ⟨rfl, congrArg Value.bool (decide_eq_false (by omega)), rfl, Below.refl _ _⟩
        · exact lmv
        · exact lsk
        · exact lsk
        · exact lsk
        · exact lsk
        · exact lsk
        · exact lsk
        · exact lsk
        · exact lsk
        · exact lsk
        · exact lpk
      intro wz hwz
      refine le8 (LeftEnd.is (LeftEnd.is (LeftEnd.is (LeftEnd.is (LeftEnd.is (LeftEnd.is (LeftEnd.is (LeftEnd.nil ?_))))))))
      simp only [Act.put, arr0, arr1, arr2]
      refine hKc _ _ ?_
      clear hKc Kc
      go_wp2
      go_wp2_with fail
      rename_i Kc hKc
      refine wp_region_left (by kernel_rfl)
        [.is (.int .i64 (i : Nat)), .is (.int .i64 (i : Nat)), .is (.slice pi L ci), .is (.int .i64 (L : Nat)), .is (.bool false), .is (.bool false), .is undef, .is undef, .is undef, .is undef, .is undef, .is undef, .is undef, .is undef, .is undef, .is (.bool false), .is (.int .i64 (i : Nat)), .is (.bool false)]
        [[],[],[],[2],[1,3],[4],[5],[5],[5,6,7],[5,8],[5,9],[5,10],[5],[5,12],[5,11,13],[5,14],[0],[15]] (by kernel_rfl) (by rfl) ?_ ?_
      · repeat' (first | exact LeftOps.nil | refine LeftOps.cons ?_ ?_)
        all_goals (intro wy hwy; clear hKc; try ((repeat (refine withLeft_is rfl rfl ?_)); (with_reducible refine withLeft_nil ?_); (try simp only [Act.put, arr0, arr1, arr2]); (try first | refine lft_run rfl rfl ?_ | refine lft_want rfl rfl rfl rfl ?_)))
        · exact lmv
        · exact lmv
        · exact lmv
        · unfold LftRun; go_wp2; exact lend
        · unfold LftRun; go_wp2; exact ⟨rfl, congrArg Value.bool (decide_eq_false (by omega)), rfl, Below.refl _ _⟩
        · exact lmv
        · exact lsk
        · exact lsk
        · exact lsk
        · exact lsk
        · exact lsk
        · exact lsk
        · exact lsk
        · exact lsk
        · exact lsk
        · exact lpk
        · exact las
        · exact las
      intro wy hwy
      refine le8 (le8 (LeftEnd.is (LeftEnd.is (LeftEnd.nil ?_))))
      simp only [Act.put, arr0, arr1, arr2]
      refine hKc _ _ ?_
      clear hKc Kc
      go_wp2
      go_ret2
      exact HEND.out wy (hwz.trans (hwy.mono hwz.size))
end Go.Proofs.YtdbgihpognfhdaaGreat.Sl.Nd
