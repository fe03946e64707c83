/- The law SumSums: whatever the bytes, every call of it returns true, and all that was there before the call is as it was. No condition. -/
import Derived.Test.YthfgegcbigcckaaRows
import Derived.Test.YthfgegcbigcckaaBegun
import Derived.WalkLawsBesides
import Derived.Deep.RegionHeld3
namespace Go.Proofs.Ythfgegcbigcckaa
open Go.ChangeShapes Go.WideShapes Go.ChangeAt Go.RowKit Go.By

def f3 (la lb lc : List Nat) (i : Nat) : Nat := atB la i ^^^ atB lb i ^^^ atB lc i
/-- The row, as far as it is filled. -/
def part (f : Nat → Nat) (n k : Nat) : List Nat := (List.range n).map fun i => if i < k then f i else 0
theorem part_length (f : Nat → Nat) (n k : Nat) : (part f n k).length = n := by simp [part]
theorem part_zero (f : Nat → Nat) (n : Nat) : part f n 0 = List.replicate n 0 := by
  apply List.ext_getElem <;> simp [part]
theorem part_set (f : Nat → Nat) (n k : Nat) : (part f n k).set k (f k) = part f n (k + 1) := by
  apply List.ext_getElem
  · simp [part]
  · intro i h1 h2
    simp only [part, List.length_set, List.length_map, List.length_range] at h1
    by_cases h : k = i
    · subst h; simp [part]
    · rw [List.getElem_set_ne h]
      simp only [part, List.getElem_map, List.getElem_range]
      have : (i < k ↔ i < k + 1) := by omega
      simp only [this]
theorem part_whole (la lb lc : List Nat) (n : Nat) (ha : n ≤ la.length) (hb : n ≤ lb.length) (hc : n ≤ lc.length) :
    part (f3 la lb lc) n n = Crc.zipx (Crc.zipx (la.take n) (lb.take n)) (lc.take n) := by
  apply List.ext_getElem
  · simp [part, Crc.zipx]; omega
  · intro i h1 h2
    have hi : i < n := by simpa [part] using h1
    simp [part, Crc.zipx, f3, hi, atB_of (show i < la.length by omega), atB_of (show i < lb.length by omega), atB_of (show i < lc.length by omega)]
theorem f3_lt {la lb lc : List Nat} {i : Nat} (ha : ∀ c ∈ la, c < 256) (hb : ∀ c ∈ lb, c < 256) (hc : ∀ c ∈ lc, c < 256) : f3 la lb lc i < 256 := by
  have h : ∀ (l : List Nat), (∀ c ∈ l, c < 256) → atB l i < 2 ^ 8 := fun l hl => by
    by_cases hi : i < l.length
    · rw [atB_of hi]; exact hl _ (List.getElem_mem hi)
    · unfold atB; rw [List.getD_eq_getElem?_getD, List.getElem?_eq_none (by omega)]; decide
  exact Nat.xor_lt_two_pow (n := 8) (Nat.xor_lt_two_pow (n := 8) (h la ha) (h lb hb)) (h lc hc)

/-- The sum, called in a world that is as another was, below. -/
theorem sum_in (W w : World) (v : Value) (l : List Nat) (hv : Bytes W v l) (hb : Below W.heap.size W w) :
    Calls Try.prog 9 #[v] w fun e w' => e = .returned (.int .u32 (Crc.sum l : Nat)) ∧ Below W.heap.size W w' :=
  (sum_any v l w (hv.below hb)).mono fun _ _ ⟨he, h⟩ => ⟨he, hb.trans (h.mono hb.size)⟩

set_option maxRecDepth 100000 in
theorem sums_any (va vb vc : Value) (la lb lc : List Nat) (w : World) (ha : Bytes w va la) (hb : Bytes w vb lb) (hc : Bytes w vc lc) :
    Calls Try.prog 5 #[va, vb, vc] w fun e w' => e = .returned (.bool true) ∧ Below w.heap.size w w' := by
  obtain ⟨pa, ca, hveq⟩ : ∃ p cap, va = .slice p la.length cap := let ⟨p, cap, h, _⟩ := ha.any; ⟨p, cap, h⟩
  subst hveq
  obtain ⟨pb, cb, hveq⟩ : ∃ p cap, vb = .slice p lb.length cap := let ⟨p, cap, h, _⟩ := hb.any; ⟨p, cap, h⟩
  subst hveq
  obtain ⟨pc, cc, hveq⟩ : ∃ p cap, vc = .slice p lc.length cap := let ⟨p, cap, h, _⟩ := hc.any; ⟨p, cap, h⟩
  subst hveq
  have ma := ha.short; have mb := hb.short; have mc := hc.short
  unfold maxLen at ma mb mc
  have HA := Lib.hid ha; clear ha
  have HB := Lib.hid hb; clear hb
  have HC := Lib.hid hc; clear hc
  obtain ⟨n, hn⟩ : ∃ n, n = min (min (min la.length lb.length) lc.length) 60 := ⟨_, rfl⟩
  have hmin : ∀ (w : World) (ts : Array TypeId) (t : TypeId), (Builtin.min_ ts t #[.int .i64 (la.length : Int), .int .i64 (lb.length : Int), .int .i64 (lc.length : Int), .int .i64 60]).run Try.prog w = .ok (.int .i64 n) w := by
    intro w ts t; rw [hn]; exact run_min4 w ts t .i64 _ _ _ 60
  have na : n ≤ la.length := by omega
  have nb : n ≤ lb.length := by omega
  have nc : n ≤ lc.length := by omega
  have n60 : n ≤ 60 := by omega
  clear hn
  obtain ⟨i0, hi, hz0, hz1, hz2⟩ := info_parts byT.info
  have HI := Lib.hid hi; clear hi
  have HZ0 := Lib.hid hz0; clear hz0
  have HZ1 := Lib.hid hz1; clear hz1
  have HZ2 := Lib.hid hz2; clear hz2
  go_enter Try.func5, Try.ntmps5
  go_wp2_with fail
  refine (begun_any _).mono ?_
  rintro e w1 ⟨rfl, hb1⟩
  have HB1 := Lib.hid hb1; clear hb1
  go_wp2_with (at_make; refine wpList_make_full _ rfl (.tmp 19) (.tmp 19) 22 rfl w1.heap.size 5 i0 (.int .u8 0) 1 byT.slice HI.out HZ0.out HZ1.out .i64 .i64 (n : Int) (n : Int) n rfl rfl rfl rfl (by rw [HZ2.out]; omega) (by unfold maxLen; omega) (Nat.le_refl _) ?_; intro w2 hown hgrow)
  have hown0 : w2.ownsRow w1.heap.size 5 1 (.slice (some ⟨w1.heap.size, 0, none⟩) n n) n (cellsOf (part (f3 la lb lc) n 0)) := by
    rw [part_zero]
    have e : (madeCells (Value.int .u8 0).cells (n * 1)).toList = cellsOf (List.replicate n 0) := by
      apply List.ext_getElem
      · simp [madeCells, cellsOf]
      · intro i h1 h2
        simp [madeCells, cellsOf, Value.cells, Nat.mod_one]
    rw [← e]; exact hown
  have hb2 : Below w1.heap.size w1 w2 := ⟨hgrow.os, hgrow.tape, hgrow.output, hgrow.size, fun k hk => hgrow.block k hk (by simp)⟩
  have HO := Lib.hid hown0
  have HB2 := Lib.hid hb2
  clear hown hgrow hown0 hb2
  go_wp2
  go_loopw [9] (fun i wr => ∃ k : Nat, k ≤ n ∧ i = .int .i64 k ∧ wr.ownsRow w1.heap.size 5 1 (.slice (some ⟨w1.heap.size, 0, none⟩) n n) n (cellsOf (part (f3 la lb lc) n k)) ∧ Below w1.heap.size w1 wr) (fun i _ => n - (intOf i).toNat)
  case atStart => exact ⟨0, by omega, rfl, HO.out, HB2.out⟩
  case round =>
    obtain ⟨k, hk, rfl, hown, hB⟩ := hrel
    clear HO HB2
    by_cases hlt : k < n
    · have hB0 : Below w.heap.size w wr := HB1.out.trans (hB.mono HB1.out.size)
      obtain ⟨ba, oa, rfl, ga⟩ := (HA.out.below hB0).spot k (by omega)
      obtain ⟨bb, ob, rfl, gb⟩ := (HB.out.below hB0).spot k (by omega)
      obtain ⟨bc, oc, rfl, gc⟩ := (HC.out.below hB0).spot k (by omega)
      have la8 := HA.out.at_lt (show k < la.length by omega)
      have lb8 := HB.out.at_lt (show k < lb.length by omega)
      have lc8 := HC.out.at_lt (show k < lc.length by omega)
      have e1 := bits_xor8 _ _ la8 lb8
      have e2 : bits .xor .u8 ((atB la k ^^^ atB lb k : Nat) : Int) (atB lc k : Int) = ((f3 la lb lc k : Nat) : Int) := bits_xor8 _ _ (Nat.xor_lt_two_pow (n := 8) la8 lb8) lc8
      have gx := hown.cellAt k (by omega)
      rw [cellsOf_get (by rw [part_length]; exact hlt)] at gx
      have gf := hown.frozenAt k
      have hst := hown.stored k (.int .u8 (f3 la lb lc k : Nat))
      rw [cellsOf_set, part_set] at hst
      have hB3 := hB.grown hst.2 hB.size (by simp)
      have HS := Lib.hid hst.1
      have HB3 := Lib.hid hB3
      have hkn : (k : Int) < n := by omega
      have hka : (k : Int) < la.length := by omega
      have hkb : (k : Int) < lb.length := by omega
      have hkc : (k : Int) < lc.length := by omega
      clear hst hB3 hown hB hB0 la8 lb8 lc8 hlt
      generalize atB la k ^^^ atB lb k = xab at *
      generalize atB la k = xa at *
      generalize atB lb k = xb at *
      generalize atB lc k = xc at *
      generalize f3 la lb lc k = xf at *
      go_wp2
      go_region
      go_wp2
      go_roundw
      case rel => exact ⟨k + 1, by omega, by go_num, HS.out.drew, HB3.out.drew⟩
      case measure => simp [intOf]; omega
    · obtain rfl : k = n := by omega
      have hB0 : Below w.heap.size w wr := HB1.out.trans (hB.mono HB1.out.size)
      have bx : Bytes wr (.slice (some ⟨w1.heap.size, 0, none⟩) k k) (part (f3 la lb lc) k k) :=
        .of_owns hown (fun c hc => by
          obtain ⟨i, _, rfl⟩ := List.mem_map.1 hc
          split
          · exact f3_lt HA.out.small HB.out.small HC.out.small
          · omega) (by rw [part_length]; unfold maxLen; omega)
      have ba := (HA.out.below hB0).upto na
      have bb := (HB.out.below hB0).upto nb
      have bc := (HC.out.below hB0).upto nc
      rw [part_whole la lb lc k na nb nc] at bx
      have hx3 := Crc.sum_xor3 (la.take k) (lb.take k) (lc.take k) (by simp; omega) (by simp; omega)
      have s1 := Crc.sum_lt (la.take k) ba.small
      have s2 := Crc.sum_lt (lb.take k) bb.small
      have s3 := Crc.sum_lt (lc.take k) bc.small
      have e1 := bits_xor32 _ _ s1 s2
      have e2 := bits_xor32 _ _ (Nat.xor_lt_two_pow (n := 32) s1 s2) s3
      rw [← hx3] at e2
      have ka : (k : Int) ≤ ca := by have := HA.out.room; omega
      have kb : (k : Int) ≤ cb := by have := HB.out.room; omega
      have kc : (k : Int) ≤ cc := by have := HC.out.room; omega
      have HB0 := Lib.hid hB0
      have BX := Lib.hid bx
      have BA := Lib.hid ba
      have BB := Lib.hid bb
      have BC := Lib.hid bc
      clear hown hB hB0 bx ba bb bc s1 s2 s3 hx3
      generalize Crc.zipx (Crc.zipx (la.take k) (lb.take k)) (lc.take k) = lx at *
      generalize la.take k = ta at *
      generalize lb.take k = tb at *
      generalize lc.take k = tc at *
      go_wp2
      go_region_held3 (fun w' => Below wr.heap.size wr w') (first | assumption | exact Below.drew (Below.refl _ _))
        (first
          | (go_at_call_of 9 (Value.slice (some ⟨w1.heap.size, 0, none⟩) k k); refine (sum_in wr _ _ lx BX.out ?_).mono ?_; (assumption); rintro e w' ⟨rfl, _⟩)
          | (go_at_call_of 9 (Value.slice pa k ca); refine (sum_in wr _ _ ta BA.out ?_).mono ?_; (assumption); rintro e w' ⟨rfl, _⟩)
          | (go_at_call_of 9 (Value.slice pb k cb); refine (sum_in wr _ _ tb BB.out ?_).mono ?_; (assumption); rintro e w' ⟨rfl, _⟩)
          | (go_at_call_of 9 (Value.slice pc k cc); refine (sum_in wr _ _ tc BC.out ?_).mono ?_; (assumption); rintro e w' ⟨rfl, _⟩))
      all_goals go_wp2
      all_goals go_ret
      all_goals exact ⟨rfl, HB0.out.trans (Below.mono (by assumption) HB0.out.size)⟩

set_option maxRecDepth 100000 in
theorem sums_lifted (os : Os) (started : os.Started) (H : Type) (enc : TypeId × Value → H) :
    ReturnsInHanded {} Try.checked os 5 .any (Rows.sumSumsSpec.pre6 enc Try.prog Try.f5 Rows.sumSumsRow.domain false) (Rows.sumSumsSpec.post enc Try.prog Try.f5 false true false false) := by
  refine returnsInHanded_of_change (C := Try.checked) own_none started (by kernel_rfl) Try.func5
    (ChangeSpec.witness6 (enc := enc) (C := Try.checked) false ⟨#[], #[.slice none 0 0, .slice none 0 0, .slice none 0 0], []⟩ 8 (by kernel_rfl) (by kernel_rfl) (by kernel_rfl) (by kernel_rfl)) ?_
  intro W base args ds gs before hval0 hW hcnd _
  have hval : ∀ (j : Nat) t v, Try.f5.params[j]? = some t → args[j]? = some v → Value.okWide Try.prog W .any base t v := hval0
  have hW' := hW
  obtain ⟨p, q, hA0, hV, rfl, hfz, hnd⟩ := hW
  have hA : DataW.TrodAll enc Try.prog W 0 (fun _ => true) true Try.f5.params.toList args.toList ds p := hA0
  have hp : Try.f5.params = #[22, 22, 22] := by kernel_rfl
  rw [hp] at hA hval
  obtain ⟨v0, v1, v2, d0, d1, d2, p0, p1, p2, rfl, rfl, rfl, h0, h1, h2⟩ := trodAll_three hA
  obtain ⟨rfl, rfl⟩ := trodVars_none hV
  obtain ⟨la, hla⟩ := open_bytes byT (by kernel_rfl) (hval 0 22 v0 rfl rfl) h0
  obtain ⟨lb, hlb⟩ := open_bytes byT (by kernel_rfl) (hval 1 22 v1 rfl rfl) h1
  obtain ⟨lc, hlc⟩ := open_bytes byT (by kernel_rfl) (hval 2 22 v2 rfl rfl) h2
  refine (sums_any v0 v1 v2 la lb lc W hla hlb hlc).mono fun e W' ⟨he, hb⟩ => ?_
  subst he
  exact ⟨_, rfl, law_post (tb := 4) laidOut (by rw [hp]; intro t ht; simp at ht; subst ht; exact ⟨by kernel_rfl, by decide +kernel⟩) rfl rfl (by kernel_rfl) (by kernel_rfl) hW' hb⟩

theorem sumSums_holds : Rows.SumSumsSaid :=
  OpenClaim.holds_of_wide 5 Try.f5 rfl rfl rfl rfl rfl rfl rfl ⟨rfl, rfl, rfl, rfl, rfl⟩ rfl rfl rfl rfl rfl (by kernel_rfl) Try.func5 (by kernel_rfl)
    (of_decide_eq_true (by kernel_rfl)) (by unfold Func.isWrapper; rw [if_neg (by decide +kernel)]; exact ⟨rfl, rfl⟩)
    (fun os started H enc _ => sums_lifted os started H enc)
end Go.Proofs.Ythfgegcbigcckaa
