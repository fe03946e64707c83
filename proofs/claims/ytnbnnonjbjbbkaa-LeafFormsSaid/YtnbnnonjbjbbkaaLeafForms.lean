/- The law LeafForms: every call of it returns true, and all that was there before the call is as it was. No condition. -/
import Derived.Test.YtnbnnonjbjbbkaaRows
import Derived.Test.YtnbnnonjbjbbkaaLfH
import Derived.Test.YtnbnnonjbjbbkaaReg
import Derived.ChangeMaps5
namespace Go.By
open Go Go.RowKit
/-- So many bytes of nought. -/
def zs (n : Nat) : List Nat := List.replicate n 0
def zs41 : List Nat := zs 41
def zs121 : List Nat := zs 121
def ChIs (c : NCh) (v : Value) (w : World) : Prop := ∃ pa na ca pb nb cb, v = .agg #[.slice pa na ca, .slice pb nb cb, .bool c.out] ∧ Bytes w (.slice pa na ca) c.k ∧ Bytes w (.slice pb nb cb) c.v
theorem ChIs.lasts (c : NCh) (v : Value) (w w' : World) (h : ChIs c v w) (hb : Below w.heap.size w w') : ChIs c v w' := by
  obtain ⟨pa, na, ca, pb, nb, cb, rfl, h1, h2⟩ := h
  exact ⟨pa, na, ca, pb, nb, cb, rfl, h1.below hb, h2.below hb⟩
def RowIs {α : Type} (K : Kind α) (xs : List α) (v : Value) (w : World) : Prop := ∃ g n, v = .slice (some ⟨g, 0, none⟩) n n ∧ n = xs.length ∧ RowAt K w (some ⟨g, 0, none⟩) n xs
theorem RowIs.lasts {α : Type} (K : Kind α) (xs : List α) (v : Value) (w w' : World) (h : RowIs K xs v w) (hb : Below w.heap.size w w') : RowIs K xs v w' := by
  obtain ⟨g, n, rfl, h1, h2⟩ := h
  exact ⟨g, n, rfl, h1, h2.below hb⟩
/-- Rows of changes. -/
def KRowC : Kind (List NCh) where
  width := 1
  is w cs l := ∃ g n, cs = [.slice (some ⟨g, 0, none⟩) n n] ∧ n = l.length ∧ RowAt KChange w (some ⟨g, 0, none⟩) n l
  len h := by obtain ⟨g, n, rfl, _⟩ := h; rfl
  stays h hb := by
    obtain ⟨g, n, rfl, h1, h2⟩ := h
    exact ⟨g, n, rfl, h1, h2.below hb⟩
theorem KRowC.mk {w : World} {g n : Nat} {l : List NCh} (hn : n = l.length) (h : RowAt KChange w (some ⟨g, 0, none⟩) n l) : KRowC.is w [.slice (some ⟨g, 0, none⟩) n n] l := ⟨g, n, rfl, hn, h⟩
def bads : List (List NCh) := [[⟨[], [], false⟩], [⟨[98], [], false⟩, ⟨[97], [], false⟩], [⟨[97], [], false⟩, ⟨[97], [], true⟩], [⟨[97], [97], true⟩], [⟨zs41, [], false⟩], [⟨[97], zs121, false⟩]]
theorem bads_no : ∀ l ∈ bads, risesCh [] l = false := by decide +kernel
/-- A figure. -/
def dig (x : Nat) : Nat := 48 + x
def nsL : List Int := [-1, 0, 1, 8, 9, 16, 17, 18, 20, 25, 64, 65]
def grpL (n : Int) : List Nat := if 1 ≤ n then groupsOf n.toNat else []
def wantL : List ByteArray := [⟨#[]⟩, ⟨#[]⟩, ⟨#[49]⟩, ⟨#[56]⟩, ⟨#[53, 52]⟩, ⟨#[56, 56]⟩, ⟨#[54, 54, 53]⟩, ⟨#[54, 54, 54]⟩, ⟨#[55, 55, 54]⟩, ⟨#[55, 54, 54, 54]⟩, ⟨#[56, 56, 56, 56, 56, 56, 56, 56]⟩, ⟨#[56, 56, 55, 55, 55, 55, 55, 55, 55]⟩]
theorem want_is : ∀ k (h : k < nsL.length) (h' : k < wantL.length), wantL[k] = strOf ((grpL nsL[k]).map dig) := by decide +kernel
theorem grp_small : ∀ n ∈ nsL, n ≤ 65 ∧ (grpL n).length ≤ 9 ∧ ∀ x ∈ grpL n, x ≤ 9 := by decide +kernel
theorem strOf_app (l m : List Nat) : strOf (l ++ m) = strOf l ++ strOf m := by
  apply ByteArray.ext
  rw [ByteArray.data_append]
  simp [strOf, strOfNums]
end Go.By
namespace Go.Proofs.Ytnbnnonjbjbbkaa
open Go Go.ChangeShapes Go.WideShapes Go.ChangeAt Go.RowKit Go.By

theorem zs_bytes (w : World) (n : Nat) (hn : n ≤ maxLen) : Bytes (w.alloc (.cells (zeros n) 5)) (.slice (some ⟨w.heap.size, 0, none⟩) n n) (zs n) := zeros_bytes w n hn
/-- A row of numbers is told. -/
def NumsTold (w : World) (l : List Nat) (e : Ending) (w' : World) : Prop := ∃ p c, e = .returned (.slice p l.length c) ∧ (∀ k, k < l.length → ∃ g, p = some ⟨g, 0, none⟩ ∧ w'.cell? ⟨g, k, none⟩ = some (.int .i64 (atB l k : Nat))) ∧ Below w.heap.size w w'
theorem groups_num (n : Int) (h : n ≤ 1048576) (w : World) : Calls Try.prog 6 #[.int .i64 n] w (NumsTold w (grpL n)) := by
  unfold grpL
  split
  · obtain ⟨m, rfl⟩ : ∃ m : Nat, n = m := ⟨n.toNat, by omega⟩
    rw [Int.toNat_natCast]
    refine (groups_any m w (by omega) (by omega)).mono ?_
    rintro e w' ⟨p, c, rfl, ho, hb⟩
    refine ⟨p, c, rfl, fun k hk => ?_, hb⟩
    obtain ⟨p', c', hv, _, _, hat⟩ := owns_at ho (by decide)
    obtain ⟨rfl, rfl⟩ : p = p' ∧ c = c' := by simpa using hv
    have := hat k _ (intsC_get hk)
    simpa using this
  · refine (groups_none n w (.inl (by omega))).mono ?_
    rintro e w' ⟨rfl, rfl⟩
    exact ⟨none, 0, rfl, fun k hk => absurd hk (Nat.not_lt_zero _), Below.refl _ _⟩

def OutRel (w : World) (i : Value) (W : World) : Prop := ∃ k : Nat, k ≤ 12 ∧ i = .int .i64 k ∧ Below w.heap.size w W
def InRel (w : World) (l : List Nat) (s i : Value) (W : World) : Prop := ∃ k : Nat, k ≤ l.length ∧ i = .int .i64 k ∧ s = .string (By.strOf ((l.take k).map dig)) ∧ Below w.heap.size w W
/-- Where the second loop stands. -/
def FormRel (wz : World) (i : Value) (wr : World) : Prop := ∃ k : Nat, k ≤ 6 ∧ i = .int .i64 k ∧ Below wz.heap.size wz wr

set_option maxRecDepth 100000 in
set_option maxHeartbeats 8000000 in
theorem forms_any (w : World) : Calls Try.prog 4 #[] w fun e w' => e = .returned (.bool true) ∧ Below w.heap.size w w' := by
  go_enter Try.func4, Try.ntmps4
  go_wp2_with fail
  refine (begun_any w).mono ?_
  rintro e w1 ⟨rfl, hb1⟩
  have HB1 := Lib.hid hb1
  clear hb1
  obtain ⟨w2, hw2⟩ : ∃ W, W = (w1.alloc (.cells #[.int .i64 (-1), .int .i64 0, .int .i64 1, .int .i64 8, .int .i64 9, .int .i64 16, .int .i64 17, .int .i64 18, .int .i64 20, .int .i64 25, .int .i64 64, .int .i64 65] 3)).alloc (.cells #[.string { data := #[] }, .string { data := #[] }, .string { data := #[49] }, .string { data := #[56] }, .string { data := #[53, 52] }, .string { data := #[56, 56] }, .string { data := #[54, 54, 53] }, .string { data := #[54, 54, 54] }, .string { data := #[55, 55, 54] }, .string { data := #[55, 54, 54, 54] }, .string { data := #[56, 56, 56, 56, 56, 56, 56, 56] }, .string { data := #[56, 56, 55, 55, 55, 55, 55, 55, 55] }] 9) := ⟨_, rfl⟩
  have hb2 : Below w1.heap.size w1 w2 := by rw [hw2]; exact allocs_below [_, _] w1
  have HNS : Hid (∀ k (h : k < nsL.length) W, Below w2.heap.size w2 W → W.cell? ⟨w1.heap.size, k, none⟩ = some (.int .i64 nsL[k])) := fun k h W hW => by
    have h0 : w2.heap[w1.heap.size + 0]? = some (.cells (nsL.map fun n => Value.int .i64 n).toArray 3 (0, 0)) := by rw [hw2]; exact allocs_at (os := [.cells #[.int .i64 (-1), .int .i64 0, .int .i64 1, .int .i64 8, .int .i64 9, .int .i64 16, .int .i64 17, .int .i64 18, .int .i64 20, .int .i64 25, .int .i64 64, .int .i64 65] 3, .cells #[.string { data := #[] }, .string { data := #[] }, .string { data := #[49] }, .string { data := #[56] }, .string { data := #[53, 52] }, .string { data := #[56, 56] }, .string { data := #[54, 54, 53] }, .string { data := #[54, 54, 54] }, .string { data := #[55, 55, 54] }, .string { data := #[55, 54, 54, 54] }, .string { data := #[56, 56, 56, 56, 56, 56, 56, 56] }, .string { data := #[56, 56, 55, 55, 55, 55, 55, 55, 55] }] 9]) (w := w1) (i := 0) rfl
    have h1 := cells_of (a := w1.heap.size) h0 k
    rw [List.getElem?_toArray, List.getElem?_map, List.getElem?_eq_getElem h] at h1
    exact (hW.cell (p := ⟨w1.heap.size, k, none⟩) (block_lt_of_cell h1)).trans h1
  have HWA : Hid (∀ k (h : k < wantL.length) W, Below w2.heap.size w2 W → W.cell? ⟨w1.heap.size + 1, k, none⟩ = some (.string wantL[k])) := fun k h W hW => by
    have h0 : w2.heap[w1.heap.size + 1]? = some (.cells (wantL.map fun s => Value.string s).toArray 9 (0, 0)) := by rw [hw2]; exact allocs_at (os := [.cells #[.int .i64 (-1), .int .i64 0, .int .i64 1, .int .i64 8, .int .i64 9, .int .i64 16, .int .i64 17, .int .i64 18, .int .i64 20, .int .i64 25, .int .i64 64, .int .i64 65] 3, .cells #[.string { data := #[] }, .string { data := #[] }, .string { data := #[49] }, .string { data := #[56] }, .string { data := #[53, 52] }, .string { data := #[56, 56] }, .string { data := #[54, 54, 53] }, .string { data := #[54, 54, 54] }, .string { data := #[55, 55, 54] }, .string { data := #[55, 54, 54, 54] }, .string { data := #[56, 56, 56, 56, 56, 56, 56, 56] }, .string { data := #[56, 56, 55, 55, 55, 55, 55, 55, 55] }] 9]) (w := w1) (i := 1) rfl
    have h1 := cells_of h0 k
    rw [List.getElem?_toArray, List.getElem?_map, List.getElem?_eq_getElem h] at h1
    exact (hW.cell (p := ⟨w1.heap.size + 1, k, none⟩) (block_lt_of_cell h1)).trans h1
  have HB2 : Hid (Below w.heap.size w w2) := HB1.out.trans (hb2.mono HB1.out.size)
  have HW2 := Lib.hid hw2
  clear hw2 hb2 HB1
  go_wp2_with fail
  rw [← HW2.out]
  clear HW2
  go_loopw [3] (fun i W => OutRel w2 i W) (fun i _ => 12 - (intOf i).toNat)
  case atStart => exact ⟨0, by omega, rfl, Below.refl _ _⟩
  case round =>
    obtain ⟨k, hk, rfl, hb⟩ := hrel
    by_cases hlt : k < 12
    · have c1 := HNS.out k hlt wr hb
      have hsm := grp_small _ (List.getElem_mem (show k < nsL.length from hlt))
      have hwant := want_is k hlt hlt
      generalize nsL[k]'hlt = n at *
      have HG := Lib.hid (groups_num n (by omega) wr)
      have hk12 : (k : Int) < 12 := by omega
      have HKL := Lib.hid hlt
      have HSM := Lib.hid hsm.2.2
      have HL9 := Lib.hid hsm.2.1
      have HWT := Lib.hid hwant
      have HB := Lib.hid hb
      have hn65 : n ≤ 65 := hsm.1
      clear hsm hwant hb hk
      go_wp2_with fail
      refine HG.out.mono ?_
      rintro e w3 ⟨p, c, rfl, hrow, hb3⟩
      have HROW := Lib.hid hrow
      have HB3 : Hid (Below w2.heap.size w2 w3) := HB.out.trans (hb3.mono HB.out.size)
      clear hrow hb3 HG c1
      generalize grpL n = l at *
      obtain ⟨N, hN⟩ : ∃ N, N = l.length := ⟨_, rfl⟩
      have HN := Lib.hid hN
      rw [← hN]
      have hN9 : (N : Int) ≤ 9 := by have := HL9.out; omega
      have H00 : Hid (InRel w3 l (.string { data := #[] }) (.int .i64 (0 : Nat)) w3) := ⟨0, Nat.zero_le _, rfl, rfl, Below.refl _ _⟩
      clear hN
      go_wp2
      go_loopw [5, 6] (fun s i W => InRel w3 l s i W) (fun _ i _ => N - (intOf i).toNat)
      case atStart => exact H00.out
      case round =>
        clear H00
        obtain ⟨j, hj, rfl, rfl, hbj⟩ := hrel
        by_cases hjn : j < N
        · have hjl : j < l.length := by rw [← HN.out]; exact hjn
          obtain ⟨g, rfl, hcell⟩ := HROW.out j hjl
          have hc2 := (hbj.cell (p := ⟨g, j, none⟩) (block_lt_of_cell hcell)).trans hcell
          have hx9 := HSM.out (atB l j) (by rw [atB_of hjl]; exact List.getElem_mem hjl)
          have hnext : (l.take (j + 1)).map dig = (l.take j).map dig ++ [48 + atB l j] := by
            rw [List.take_succ_eq_append_getElem hjl, List.map_append, atB_of hjl]; rfl
          have hsz : ((l.take j).map dig).length ≤ 9 := by rw [List.length_map, List.length_take]; have := HL9.out; omega
          have HJL := Lib.hid hjl
          generalize atB l j = x at *
          have hw8 : IntKind.u8.wrap ((48 : Int) + (x : Int)) = (48 : Int) + (x : Int) := IntWalk.u8_in _ (by omega)
          have hx9' : (x : Int) ≤ 9 := by omega
          have sA : Op.stringOp .add (By.strOf ((l.take j).map dig)) (By.strOf [48 + x]) = pure (.string (By.strOf ((l.take (j + 1)).map dig))) := by
            simp only [Op.stringOp]
            rw [if_neg, ← strOf_app, hnext]
            have e1 : (By.strOf ((l.take j).map dig)).size = ((l.take j).map dig).length := by simp [By.strOf, strOfNums_size]
            have e2 : (By.strOf [48 + x]).size = 1 := rfl
            rw [e1, e2]
            have : IntKind.i64.max = 9223372036854775807 := rfl
            omega
          have hts := Bytes.toString (P := Try.prog) byT (Bytes.one (w := wr) (e := 5) (n := (48 : Int) + (x : Int)) (x := 48 + x) (by omega) (by omega)) (d := 9) (by kernel_rfl)
          have HNX : Hid (∀ W, Below wr.heap.size wr W → InRel w3 l (.string (By.strOf ((l.take (j + 1)).map dig))) (.int .i64 (j + 1 : Nat)) W) := fun W hW => ⟨j + 1, HJL.out, rfl, rfl, hbj.trans (hW.mono hbj.size)⟩
          generalize By.strOf ((l.take j).map dig) = S at *
          generalize By.strOf ((l.take (j + 1)).map dig) = S2 at *
          generalize By.strOf [48 + x] = S3 at *
          have hjN : (j : Int) < N := by omega
          clear hcell hnext hsz hbj hx9 hjl
          go_wp2
          go_roundw
          case rel => exact HNX.out _ ((Below.refl _ _).alloc (Nat.le_refl _) _)
          case measure => simp [intOf]; omega
        · obtain rfl : j = N := by have := HN.out; omega
          rw [List.take_of_length_le (by rw [← HN.out]; exact Nat.le_refl _)]
          have c2 := HWA.out k HKL.out wr (HB3.out.trans (hbj.mono HB3.out.size))
          rw [HWT.out] at c2
          generalize By.strOf (l.map dig) = S at *
          have HNX : Hid (OutRel w2 (.int .i64 (k + 1 : Nat)) wr) := ⟨k + 1, HKL.out, rfl, HB3.out.trans (hbj.mono HB3.out.size)⟩
          clear hbj
          go_wp2
          go_roundw
          case rel => exact HNX.out
          case measure => simp [intOf]; have := HKL.out; omega
    · obtain rfl : k = 12 := by omega
      rename World => wq
      have HBq : Hid (Below w.heap.size w wq) := HB2.out.trans (hb.mono HB2.out.size)
      clear hb hlt hk HNS HWA HB2
      obtain ⟨wp, hwp⟩ : ∃ W, W = (wq.alloc (.cells #[.int .u8 97] 5 (1, 2))).alloc (.cells #[.int .u8 98] 5 (1, 2)) := ⟨_, rfl⟩
      have hbp : Below wq.heap.size wq wp := by rw [hwp]; exact allocs_below [_, _] wq
      have b0 : Bytes wp (.slice (some ⟨wq.heap.size, 0, none⟩) 1 1) [97] := bytes_at [97] (by rw [hwp]; exact allocs_at (os := [.cells #[.int .u8 97] 5 (1, 2), .cells #[.int .u8 98] 5 (1, 2)]) (w := wq) (i := 0) rfl) rfl rfl (by decide) (by decide)
      have b1 : Bytes wp (.slice (some ⟨wq.heap.size + 1, 0, none⟩) 1 1) [98] := bytes_at [98] (by rw [hwp]; exact allocs_at (os := [.cells #[.int .u8 97] 5 (1, 2), .cells #[.int .u8 98] 5 (1, 2)]) (w := wq) (i := 1) rfl) rfl rfl (by decide) (by decide)
      have HA : Hid (∀ w', Below wp.heap.size wp w' → Bytes w' (.slice (some ⟨wq.heap.size, 0, none⟩) 1 1) [97]) := fun w' hb => b0.below hb
      have HB : Hid (∀ w', Below wp.heap.size wp w' → Bytes w' (.slice (some ⟨wq.heap.size + 1, 0, none⟩) 1 1) [98]) := fun w' hb => b1.below hb
      have HBp : Hid (Below w.heap.size w wp) := HBq.out.trans (hbp.mono HBq.out.size)
      have HWP := Lib.hid hwp
      clear hwp hbp b0 b1 HBq
      have hcv1 := fun (w : World) (C : Array Value) (n c : Nat) => Lib.run_convert_bytes_const (P := Try.prog) w 27 5 C n c byT.slice byT.elem
      have hcv2 := Go.Joins.run_convert_bytes_const_at (P := Try.prog) (wq.alloc (.cells #[.int .u8 97] 5 (1, 2))) 27 5 #[.int .u8 98] 1 1 (wq.heap.size + 1) (World.size_alloc ..).symm byT.slice byT.elem
      go_wp2_with fail
      clear hcv1 hcv2
      rw [← HWP.out]
      clear HWP
      rename_i Kc hKc
      refine wp_region_left (by kernel_rfl)
        [.ex (ChIs ⟨[], [], false⟩) (ChIs.lasts ⟨[], [], false⟩),
         .ex (RowIs KChange [⟨[], [], false⟩]) (RowIs.lasts KChange [⟨[], [], false⟩]),
         .is (.slice (some ⟨wq.heap.size + 1, 0, none⟩) 1 1),
         .ex (ChIs ⟨[98], [], false⟩) (ChIs.lasts ⟨[98], [], false⟩),
         .is (.slice (some ⟨wq.heap.size, 0, none⟩) 1 1),
         .ex (ChIs ⟨[97], [], false⟩) (ChIs.lasts ⟨[97], [], false⟩),
         .ex (RowIs KChange [⟨[98], [], false⟩, ⟨[97], [], false⟩]) (RowIs.lasts KChange [⟨[98], [], false⟩, ⟨[97], [], false⟩]),
         .is (.slice (some ⟨wq.heap.size, 0, none⟩) 1 1),
         .ex (ChIs ⟨[97], [], false⟩) (ChIs.lasts ⟨[97], [], false⟩),
         .is (.slice (some ⟨wq.heap.size, 0, none⟩) 1 1),
         .ex (ChIs ⟨[97], [], true⟩) (ChIs.lasts ⟨[97], [], true⟩),
         .ex (RowIs KChange [⟨[97], [], false⟩, ⟨[97], [], true⟩]) (RowIs.lasts KChange [⟨[97], [], false⟩, ⟨[97], [], true⟩]),
         .is (.slice (some ⟨wq.heap.size, 0, none⟩) 1 1),
         .is (.slice (some ⟨wq.heap.size, 0, none⟩) 1 1),
         .ex (ChIs ⟨[97], [97], true⟩) (ChIs.lasts ⟨[97], [97], true⟩),
         .ex (RowIs KChange [⟨[97], [97], true⟩]) (RowIs.lasts KChange [⟨[97], [97], true⟩]),
         .bytes zs41,
         .ex (ChIs ⟨zs41, [], false⟩) (ChIs.lasts ⟨zs41, [], false⟩),
         .ex (RowIs KChange [⟨zs41, [], false⟩]) (RowIs.lasts KChange [⟨zs41, [], false⟩]),
         .is (.slice (some ⟨wq.heap.size, 0, none⟩) 1 1),
         .bytes zs121,
         .ex (ChIs ⟨[97], zs121, false⟩) (ChIs.lasts ⟨[97], zs121, false⟩),
         .ex (RowIs KChange [⟨[97], zs121, false⟩]) (RowIs.lasts KChange [⟨[97], zs121, false⟩]),
         .ex (RowIs KRowC bads) (RowIs.lasts KRowC bads),
         .ex (RowIs KRowC bads) (RowIs.lasts KRowC bads)]
        [[], [0], [], [2], [], [4], [3, 5], [], [7], [], [9], [8, 10], [], [], [12, 13], [14], [], [16], [17], [], [], [19, 20], [21], [1, 6, 11, 15, 18, 22], [23]] (by kernel_rfl) (by rfl) ?_ ?_
      · refine LeftOps.cons ?_ (LeftOps.cons ?_ (LeftOps.cons ?_ (LeftOps.cons ?_ (LeftOps.cons ?_ (LeftOps.cons ?_ (LeftOps.cons ?_ (LeftOps.cons ?_ (LeftOps.cons ?_ (LeftOps.cons ?_ (LeftOps.cons ?_ (LeftOps.cons ?_ (LeftOps.cons ?_ (LeftOps.cons ?_ (LeftOps.cons ?_ (LeftOps.cons ?_ (LeftOps.cons ?_ (LeftOps.cons ?_ (LeftOps.cons ?_ (LeftOps.cons ?_ (LeftOps.cons ?_ (LeftOps.cons ?_ (LeftOps.cons ?_ (LeftOps.cons ?_ (LeftOps.cons ?_ (LeftOps.nil)))))))))))))))))))))))))
        · intro wz hwz
          clear hKc
          refine withLeft_nil ?_
          refine lft_run rfl rfl ?_
          unfold LftRun
          go_wp2
          exact ⟨rfl, ⟨_, _, _, _, _, _, rfl, (Bytes.nil wz), (Bytes.nil wz)⟩, rfl, Below.refl _ _⟩
        · intro wz hwz
          clear hKc
          refine withLeft_ex rfl rfl ?_
          rintro _ ⟨pa0, na0, ca0, pb0, nb0, cb0, rfl, a0, b0⟩
          refine withLeft_nil ?_
          simp only [Act.put, List.setIfInBounds_toArray, List.set_cons_zero, List.set_cons_succ]
          refine lft_run rfl rfl ?_
          have hnew := fun o => (Below.refl wz.heap.size wz).alloc (Nat.le_refl _) o
          unfold LftRun
          go_wp2
          refine ⟨rfl, ⟨_, _, rfl, rfl, RowAt.lit (css := [[.slice pa0 na0 ca0, .slice pb0 nb0 cb0, .bool false]]) (heap_alloc_new wz _) rfl (.cons (KChange.mk rfl (a0.below (hnew _)) (b0.below (hnew _))) (.nil)) rfl (by decide)⟩, rfl, (Below.refl _ _).alloc (Nat.le_refl _) _⟩
        · intro wz hwz
          clear hKc
          refine withLeft_nil ?_
          refine lft_run rfl rfl ?_
          exact lft_move rfl (by first | rfl | assumption)
        · intro wz hwz
          clear hKc
          refine withLeft_is rfl rfl ?_
          refine withLeft_nil ?_
          simp only [Act.put, List.setIfInBounds_toArray, List.set_cons_zero, List.set_cons_succ]
          refine lft_run rfl rfl ?_
          unfold LftRun
          go_wp2
          exact ⟨rfl, ⟨_, _, _, _, _, _, rfl, (HB.out _ hwz), (Bytes.nil wz)⟩, rfl, Below.refl _ _⟩
        · intro wz hwz
          clear hKc
          refine withLeft_nil ?_
          refine lft_run rfl rfl ?_
          exact lft_move rfl (by first | rfl | assumption)
        · intro wz hwz
          clear hKc
          refine withLeft_is rfl rfl ?_
          refine withLeft_nil ?_
          simp only [Act.put, List.setIfInBounds_toArray, List.set_cons_zero, List.set_cons_succ]
          refine lft_run rfl rfl ?_
          unfold LftRun
          go_wp2
          exact ⟨rfl, ⟨_, _, _, _, _, _, rfl, (HA.out _ hwz), (Bytes.nil wz)⟩, rfl, Below.refl _ _⟩
        · intro wz hwz
          clear hKc
          refine withLeft_ex rfl rfl ?_
          rintro _ ⟨pa0, na0, ca0, pb0, nb0, cb0, rfl, a0, b0⟩
          refine withLeft_ex rfl rfl ?_
          rintro _ ⟨pa1, na1, ca1, pb1, nb1, cb1, rfl, a1, b1⟩
          refine withLeft_nil ?_
          simp only [Act.put, List.setIfInBounds_toArray, List.set_cons_zero, List.set_cons_succ]
          refine lft_run rfl rfl ?_
          have hnew := fun o => (Below.refl wz.heap.size wz).alloc (Nat.le_refl _) o
          unfold LftRun
          go_wp2
          refine ⟨rfl, ⟨_, _, rfl, rfl, RowAt.lit (css := [[.slice pa0 na0 ca0, .slice pb0 nb0 cb0, .bool false], [.slice pa1 na1 ca1, .slice pb1 nb1 cb1, .bool false]]) (heap_alloc_new wz _) rfl (.cons (KChange.mk rfl (a0.below (hnew _)) (b0.below (hnew _))) (.cons (KChange.mk rfl (a1.below (hnew _)) (b1.below (hnew _))) (.nil))) rfl (by decide)⟩, rfl, (Below.refl _ _).alloc (Nat.le_refl _) _⟩
        · intro wz hwz
          clear hKc
          refine withLeft_nil ?_
          refine lft_run rfl rfl ?_
          exact lft_move rfl (by first | rfl | assumption)
        · intro wz hwz
          clear hKc
          refine withLeft_is rfl rfl ?_
          refine withLeft_nil ?_
          simp only [Act.put, List.setIfInBounds_toArray, List.set_cons_zero, List.set_cons_succ]
          refine lft_run rfl rfl ?_
          unfold LftRun
          go_wp2
          exact ⟨rfl, ⟨_, _, _, _, _, _, rfl, (HA.out _ hwz), (Bytes.nil wz)⟩, rfl, Below.refl _ _⟩
        · intro wz hwz
          clear hKc
          refine withLeft_nil ?_
          refine lft_run rfl rfl ?_
          exact lft_move rfl (by first | rfl | assumption)
        · intro wz hwz
          clear hKc
          refine withLeft_is rfl rfl ?_
          refine withLeft_nil ?_
          simp only [Act.put, List.setIfInBounds_toArray, List.set_cons_zero, List.set_cons_succ]
          refine lft_run rfl rfl ?_
          unfold LftRun
          go_wp2
          exact ⟨rfl, ⟨_, _, _, _, _, _, rfl, (HA.out _ hwz), (Bytes.nil wz)⟩, rfl, Below.refl _ _⟩
        · intro wz hwz
          clear hKc
          refine withLeft_ex rfl rfl ?_
          rintro _ ⟨pa0, na0, ca0, pb0, nb0, cb0, rfl, a0, b0⟩
          refine withLeft_ex rfl rfl ?_
          rintro _ ⟨pa1, na1, ca1, pb1, nb1, cb1, rfl, a1, b1⟩
          refine withLeft_nil ?_
          simp only [Act.put, List.setIfInBounds_toArray, List.set_cons_zero, List.set_cons_succ]
          refine lft_run rfl rfl ?_
          have hnew := fun o => (Below.refl wz.heap.size wz).alloc (Nat.le_refl _) o
          unfold LftRun
          go_wp2
          refine ⟨rfl, ⟨_, _, rfl, rfl, RowAt.lit (css := [[.slice pa0 na0 ca0, .slice pb0 nb0 cb0, .bool false], [.slice pa1 na1 ca1, .slice pb1 nb1 cb1, .bool true]]) (heap_alloc_new wz _) rfl (.cons (KChange.mk rfl (a0.below (hnew _)) (b0.below (hnew _))) (.cons (KChange.mk rfl (a1.below (hnew _)) (b1.below (hnew _))) (.nil))) rfl (by decide)⟩, rfl, (Below.refl _ _).alloc (Nat.le_refl _) _⟩
        · intro wz hwz
          clear hKc
          refine withLeft_nil ?_
          refine lft_run rfl rfl ?_
          exact lft_move rfl (by first | rfl | assumption)
        · intro wz hwz
          clear hKc
          refine withLeft_nil ?_
          refine lft_run rfl rfl ?_
          exact lft_move rfl (by first | rfl | assumption)
        · intro wz hwz
          clear hKc
          refine withLeft_is rfl rfl ?_
          refine withLeft_is rfl rfl ?_
          refine withLeft_nil ?_
          simp only [Act.put, List.setIfInBounds_toArray, List.set_cons_zero, List.set_cons_succ]
          refine lft_run rfl rfl ?_
          unfold LftRun
          go_wp2
          exact ⟨rfl, ⟨_, _, _, _, _, _, rfl, (HA.out _ hwz), (HA.out _ hwz)⟩, rfl, Below.refl _ _⟩
        · intro wz hwz
          clear hKc
          refine withLeft_ex rfl rfl ?_
          rintro _ ⟨pa0, na0, ca0, pb0, nb0, cb0, rfl, a0, b0⟩
          refine withLeft_nil ?_
          simp only [Act.put, List.setIfInBounds_toArray, List.set_cons_zero, List.set_cons_succ]
          refine lft_run rfl rfl ?_
          have hnew := fun o => (Below.refl wz.heap.size wz).alloc (Nat.le_refl _) o
          unfold LftRun
          go_wp2
          refine ⟨rfl, ⟨_, _, rfl, rfl, RowAt.lit (css := [[.slice pa0 na0 ca0, .slice pb0 nb0 cb0, .bool true]]) (heap_alloc_new wz _) rfl (.cons (KChange.mk rfl (a0.below (hnew _)) (b0.below (hnew _))) (.nil)) rfl (by decide)⟩, rfl, (Below.refl _ _).alloc (Nat.le_refl _) _⟩
        · intro wz hwz
          clear hKc
          refine withLeft_nil ?_
          refine lft_run rfl rfl ?_
          have hmk := made_run 41 41 41 41 rfl rfl (Nat.le_refl _) (by omega) wz
          unfold LftRun
          go_wp2
          exact ⟨rfl, zs_bytes wz 41 (by decide), rfl, (Below.refl _ _).alloc (Nat.le_refl _) _⟩
        · intro wz hwz
          clear hKc
          refine withLeft_bytes rfl rfl ?_
          intro vv hvv
          refine withLeft_nil ?_
          simp only [Act.put, List.setIfInBounds_toArray, List.set_cons_zero, List.set_cons_succ]
          refine lft_run rfl rfl ?_
          obtain ⟨pv, cv, rfl, -⟩ := (id hvv).any
          unfold LftRun
          go_wp2
          exact ⟨rfl, ⟨_, _, _, _, _, _, rfl, (hvv), (Bytes.nil wz)⟩, rfl, Below.refl _ _⟩
        · intro wz hwz
          clear hKc
          refine withLeft_ex rfl rfl ?_
          rintro _ ⟨pa0, na0, ca0, pb0, nb0, cb0, rfl, a0, b0⟩
          refine withLeft_nil ?_
          simp only [Act.put, List.setIfInBounds_toArray, List.set_cons_zero, List.set_cons_succ]
          refine lft_run rfl rfl ?_
          have hnew := fun o => (Below.refl wz.heap.size wz).alloc (Nat.le_refl _) o
          unfold LftRun
          go_wp2
          refine ⟨rfl, ⟨_, _, rfl, rfl, RowAt.lit (css := [[.slice pa0 na0 ca0, .slice pb0 nb0 cb0, .bool false]]) (heap_alloc_new wz _) rfl (.cons (KChange.mk rfl (a0.below (hnew _)) (b0.below (hnew _))) (.nil)) rfl (by decide)⟩, rfl, (Below.refl _ _).alloc (Nat.le_refl _) _⟩
        · intro wz hwz
          clear hKc
          refine withLeft_nil ?_
          refine lft_run rfl rfl ?_
          exact lft_move rfl (by first | rfl | assumption)
        · intro wz hwz
          clear hKc
          refine withLeft_nil ?_
          refine lft_run rfl rfl ?_
          have hmk := made_run 121 121 121 121 rfl rfl (Nat.le_refl _) (by omega) wz
          unfold LftRun
          go_wp2
          exact ⟨rfl, zs_bytes wz 121 (by decide), rfl, (Below.refl _ _).alloc (Nat.le_refl _) _⟩
        · intro wz hwz
          clear hKc
          refine withLeft_is rfl rfl ?_
          refine withLeft_bytes rfl rfl ?_
          intro vv hvv
          refine withLeft_nil ?_
          simp only [Act.put, List.setIfInBounds_toArray, List.set_cons_zero, List.set_cons_succ]
          refine lft_run rfl rfl ?_
          obtain ⟨pv, cv, rfl, -⟩ := (id hvv).any
          unfold LftRun
          go_wp2
          exact ⟨rfl, ⟨_, _, _, _, _, _, rfl, (HA.out _ hwz), (hvv)⟩, rfl, Below.refl _ _⟩
        · intro wz hwz
          clear hKc
          refine withLeft_ex rfl rfl ?_
          rintro _ ⟨pa0, na0, ca0, pb0, nb0, cb0, rfl, a0, b0⟩
          refine withLeft_nil ?_
          simp only [Act.put, List.setIfInBounds_toArray, List.set_cons_zero, List.set_cons_succ]
          refine lft_run rfl rfl ?_
          have hnew := fun o => (Below.refl wz.heap.size wz).alloc (Nat.le_refl _) o
          unfold LftRun
          go_wp2
          refine ⟨rfl, ⟨_, _, rfl, rfl, RowAt.lit (css := [[.slice pa0 na0 ca0, .slice pb0 nb0 cb0, .bool false]]) (heap_alloc_new wz _) rfl (.cons (KChange.mk rfl (a0.below (hnew _)) (b0.below (hnew _))) (.nil)) rfl (by decide)⟩, rfl, (Below.refl _ _).alloc (Nat.le_refl _) _⟩
        · intro wz hwz
          clear hKc
          refine withLeft_ex rfl rfl ?_
          rintro _ ⟨g0, n0, rfl, e0, r0⟩
          refine withLeft_ex rfl rfl ?_
          rintro _ ⟨g1, n1, rfl, e1, r1⟩
          refine withLeft_ex rfl rfl ?_
          rintro _ ⟨g2, n2, rfl, e2, r2⟩
          refine withLeft_ex rfl rfl ?_
          rintro _ ⟨g3, n3, rfl, e3, r3⟩
          refine withLeft_ex rfl rfl ?_
          rintro _ ⟨g4, n4, rfl, e4, r4⟩
          refine withLeft_ex rfl rfl ?_
          rintro _ ⟨g5, n5, rfl, e5, r5⟩
          refine withLeft_nil ?_
          simp only [Act.put, List.setIfInBounds_toArray, List.set_cons_zero, List.set_cons_succ]
          refine lft_run rfl rfl ?_
          have hnew := fun o => (Below.refl wz.heap.size wz).alloc (Nat.le_refl _) o
          have E0 := Lib.hid e0
          clear e0
          have E1 := Lib.hid e1
          clear e1
          have E2 := Lib.hid e2
          clear e2
          have E3 := Lib.hid e3
          clear e3
          have E4 := Lib.hid e4
          clear e4
          have E5 := Lib.hid e5
          clear e5
          unfold LftRun
          go_wp2
          have e0 := E0.out
          have e1 := E1.out
          have e2 := E2.out
          have e3 := E3.out
          have e4 := E4.out
          have e5 := E5.out
          refine ⟨rfl, ⟨_, _, rfl, rfl, RowAt.lit (css := [[.slice (some ⟨g0, 0, none⟩) n0 n0], [.slice (some ⟨g1, 0, none⟩) n1 n1], [.slice (some ⟨g2, 0, none⟩) n2 n2], [.slice (some ⟨g3, 0, none⟩) n3 n3], [.slice (some ⟨g4, 0, none⟩) n4 n4], [.slice (some ⟨g5, 0, none⟩) n5 n5]]) (heap_alloc_new wz _) rfl (.cons (KRowC.mk e0 (r0.below (hnew _))) (.cons (KRowC.mk e1 (r1.below (hnew _))) (.cons (KRowC.mk e2 (r2.below (hnew _))) (.cons (KRowC.mk e3 (r3.below (hnew _))) (.cons (KRowC.mk e4 (r4.below (hnew _))) (.cons (KRowC.mk e5 (r5.below (hnew _))) (.nil))))))) rfl (by decide)⟩, rfl, (Below.refl _ _).alloc (Nat.le_refl _) _⟩
        · intro wz hwz
          clear hKc
          refine withLeft_ex rfl rfl ?_
          rintro _ ⟨g0, n0, rfl, e0, r0⟩
          refine withLeft_nil ?_
          simp only [Act.put, List.setIfInBounds_toArray, List.set_cons_zero, List.set_cons_succ]
          refine lft_run rfl rfl ?_
          have HN0 := Lib.hid e0
          clear e0
          unfold LftRun
          go_wp2
          exact ⟨rfl, ⟨_, _, rfl, HN0.out, r0⟩, rfl, Below.refl _ _⟩
      intro wz hwz
      refine LeftEnd.ex (fun _ _ => LeftEnd.ex (fun _ _ => LeftEnd.is (LeftEnd.ex (fun _ _ => LeftEnd.is (LeftEnd.ex (fun _ _ => LeftEnd.ex (fun _ _ => LeftEnd.is (LeftEnd.ex (fun _ _ => LeftEnd.is (LeftEnd.ex (fun _ _ => LeftEnd.ex (fun _ _ => LeftEnd.is (LeftEnd.is (LeftEnd.ex (fun _ _ => LeftEnd.ex (fun _ _ => LeftEnd.bytes (fun _ _ => LeftEnd.ex (fun _ _ => LeftEnd.ex (fun _ _ => LeftEnd.is (LeftEnd.bytes (fun _ _ => LeftEnd.ex (fun _ _ => LeftEnd.ex (fun _ _ => LeftEnd.ex (fun _ _ => LeftEnd.ex (fun vB hBad => LeftEnd.nil ?_)))))))))))))))))))))))))
      simp only [Act.put, List.setIfInBounds_toArray, List.set_cons_zero, List.set_cons_succ]
      have HB3 : Hid (Below w.heap.size w wz) := HBp.out.trans (hwz.mono HBp.out.size)
      have HA3 : Hid (∀ w', Below wz.heap.size wz w' → Bytes w' (.slice (some ⟨wq.heap.size, 0, none⟩) 1 1) [97]) := fun w' hb => HA.out _ (hwz.trans (hb.mono hwz.size))
      have HL3 : Hid (∀ w', Below wz.heap.size wz w' → Bytes w' (.slice (some ⟨wq.heap.size + 1, 0, none⟩) 1 1) [98]) := fun w' hb => HB.out _ (hwz.trans (hb.mono hwz.size))
      obtain ⟨g9, n9, rfl, hn9, r9⟩ := hBad
      have hn6 : n9 = 6 := hn9
      clear hn9
      subst hn6
      have HR9 := Lib.hid r9
      clear hwz r9 HBp HA HB
      refine hKc _ _ ?_
      clear hKc Kc
      go_wp2
      go_loopw [10] (fun i wr => FormRel wz i wr) (fun i _ => 6 - (intOf i).toNat)
      case atStart => exact ⟨0, by omega, rfl, Below.refl _ _⟩
      case round =>
        obtain ⟨k, hk, rfl, hb⟩ := hrel
        by_cases hlt : k < 6
        · have hkb : k < bads.length := hlt
          obtain ⟨lb, lo, cs, h1, hc, hkn⟩ := HR9.out.at_ k hkb
          obtain ⟨rfl, rfl⟩ : g9 = lb ∧ 0 = lo := by simpa using h1
          obtain ⟨g, n, rfl, hn, hnd⟩ := hkn
          have c0 := (hc.below hb).one
          simp only [KRowC, Nat.zero_add, Nat.mul_one] at c0
          have hno := bads_no _ (List.getElem_mem hkb)
          generalize bads[k] = l at *
          have HM := Lib.hid (rising_any _ n l _ (hnd.below hb))
          rw [← hn] at HM
          have HND := Lib.hid hnd; have HBW := Lib.hid hb; have HNO := Lib.hid hno; have HKL := Lib.hid hlt
          have hki : (k : Int) < 6 := by omega
          clear hnd hb hno hc h1 hkb hk hlt hn
          go_wp2_with fail
          refine HM.out.mono ?_
          rintro e w3 ⟨rfl, hb3⟩
          rw [HNO.out]
          have HNX : Hid (FormRel wz (.int .i64 (k + 1 : Nat)) w3) := ⟨k + 1, HKL.out, rfl, HBW.out.trans (hb3.mono HBW.out.size)⟩
          clear hb3 HM c0
          go_wp2
          go_roundw
          case rel => first | exact HNX.out | ((repeat apply Exists.intro); exact ⟨HNX.out, rfl⟩)
          case measure => simp [intOf]; have := HKL.out; omega
        · obtain rfl : k = 6 := by omega
          rename World => wy
          have HBY := Lib.hid hb
          clear hb hk hlt
          go_wp2_with fail
          refine (rising_any none 0 [] wy RowAt.nil).mono ?_
          rintro e w3 ⟨rfl, hb3⟩
          rw [show risesCh [] [] = true from rfl]
          have hbz : Below wz.heap.size wz w3 := HBY.out.trans (hb3.mono HBY.out.size)
          have hb4 : Below w3.heap.size w3 (w3.alloc (.cells #[.slice (some ⟨wq.heap.size, 0, none⟩) 1 1, .slice none 0 0, .bool true, .slice (some ⟨wq.heap.size + 1, 0, none⟩) 1 1, .slice (some ⟨wq.heap.size, 0, none⟩) 1 1, .bool false] 29)) := (Below.refl _ _).alloc (Nat.le_refl _) _
          have hbz4 := hbz.trans (hb4.mono hbz.size)
          have hC : RowAt KChange (w3.alloc (.cells #[.slice (some ⟨wq.heap.size, 0, none⟩) 1 1, .slice none 0 0, .bool true, .slice (some ⟨wq.heap.size + 1, 0, none⟩) 1 1, .slice (some ⟨wq.heap.size, 0, none⟩) 1 1, .bool false] 29)) (some ⟨w3.heap.size, 0, none⟩) 2 [⟨[97], [], true⟩, ⟨[98], [97], false⟩] :=
            RowAt.lit (css := [[.slice (some ⟨wq.heap.size, 0, none⟩) 1 1, .slice none 0 0, .bool true], [.slice (some ⟨wq.heap.size + 1, 0, none⟩) 1 1, .slice (some ⟨wq.heap.size, 0, none⟩) 1 1, .bool false]]) (heap_alloc_new w3 _) rfl (.cons (KChange.mk rfl (HA3.out _ hbz4) (Bytes.nil _)) (.cons (KChange.mk rfl (HL3.out _ hbz4) (HA3.out _ hbz4)) .nil)) rfl (by decide)
          have HRI := Lib.hid (rising_any _ 2 [⟨[97], [], true⟩, ⟨[98], [97], false⟩] _ hC)
          rw [show risesCh [] [⟨[97], [], true⟩, ⟨[98], [97], false⟩] = true from by decide] at HRI
          simp only [List.length_cons, List.length_nil, Nat.zero_add, Nat.reduceAdd] at HRI
          have HB4 : Hid (Below w.heap.size w (w3.alloc (.cells #[.slice (some ⟨wq.heap.size, 0, none⟩) 1 1, .slice none 0 0, .bool true, .slice (some ⟨wq.heap.size + 1, 0, none⟩) 1 1, .slice (some ⟨wq.heap.size, 0, none⟩) 1 1, .bool false] 29))) := HB3.out.trans (hbz4.mono HB3.out.size)
          clear hbz hb4 hbz4 hC hb3
          go_wp2_with fail
          refine HRI.out.mono ?_
          rintro e w5 ⟨rfl, hb5⟩
          have HB5 : Hid (Below w.heap.size w w5) := HB4.out.trans (hb5.mono HB4.out.size)
          clear hb5 HRI HB4
          go_wp2
          go_ret
          exact ⟨rfl, HB5.out⟩

set_option maxRecDepth 100000 in
theorem forms_lifted (os : Os) (started : os.Started) (H : Type) (enc : TypeId × Value → H) :
    ReturnsInHanded {} Try.checked os 4 .any (Rows.leafFormsSpec.pre6 enc Try.prog Try.f4 Rows.leafFormsRow.domain false) (Rows.leafFormsSpec.post enc Try.prog Try.f4 false true false false) := by
  refine returnsInHanded_of_change (C := Try.checked) own_none started (by kernel_rfl) Try.func4
    (ChangeSpec.witness6 (enc := enc) (C := Try.checked) false ⟨#[], #[], []⟩ 8 (by kernel_rfl) (by kernel_rfl) (by kernel_rfl) (by kernel_rfl)) ?_
  intro W base args ds gs before hval0 hW hcnd _
  have hW' := hW
  obtain ⟨p, q, hA0, hV, rfl, hfz, hnd⟩ := hW
  have hA : DataW.TrodAll enc Try.prog W 0 (fun _ => true) true Try.f4.params.toList args.toList ds p := hA0
  have hp : Try.f4.params = #[] := by kernel_rfl
  rw [hp] at hA
  obtain ⟨rfl, rfl, rfl⟩ := trodAll_none hA
  obtain ⟨rfl, rfl⟩ := trodVars_none hV
  refine (forms_any W).mono fun e W' ⟨he, hb⟩ => ?_
  subst he
  exact ⟨_, rfl, law_post (tb := 4) laidOut (by rw [hp]; intro t ht; simp at ht) rfl rfl (by kernel_rfl) (by kernel_rfl) hW' hb⟩

theorem leafForms_holds : Rows.LeafFormsSaid :=
  OpenClaim.holds_of_wide 4 Try.f4 rfl rfl rfl rfl rfl rfl rfl ⟨rfl, rfl, rfl, rfl, rfl⟩ rfl rfl rfl rfl rfl (by kernel_rfl) Try.func4 (by kernel_rfl)
    (of_decide_eq_true (by kernel_rfl)) (by unfold Func.isWrapper; rw [if_neg (by decide +kernel)]; exact ⟨rfl, rfl⟩)
    (fun os started H enc _ => forms_lifted os started H enc)
end Go.Proofs.Ytnbnnonjbjbbkaa

