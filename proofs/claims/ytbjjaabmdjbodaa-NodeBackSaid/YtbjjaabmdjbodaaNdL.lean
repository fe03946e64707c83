/- Nodes in a program: texts and numbers, taken. -/
import Derived.Test.YtbjjaabmdjbodaaNdK
namespace Go.By
open Go Go.RowKit
theorem Below.only2 {B A t : Nat} {w0 w w' : World} (h : Below B w0 w) (hB : B ≤ A) (ht : B ≤ t) (hw : B ≤ w.heap.size) (h2 : Only2 A t w w') : Below B w0 w' :=
  ⟨h2.os.trans h.os, h2.tape.trans h.tape, h2.output.trans h.output, Nat.le_trans h.size h2.size, fun k hk => (h2.block k (by omega) (by omega) (by omega)).trans (h.block k hk)⟩
theorem set_same {cs : Array Value} {c : Nat} {v : Value} (h : cs[c]? = some v) : cs.setIfInBounds c v = cs := by
  apply Array.ext_getElem?
  intro j
  rw [Array.getElem?_setIfInBounds]
  split
  · rename_i hj
    subst hj
    rw [h]
    obtain ⟨hlt, _⟩ := Array.getElem?_eq_some_iff.1 h
    simp [hlt]
  · rfl
end Go.By
namespace Go.Proofs.Ytbjjaabmdjbodaa
open Go Go.RowKit Go.By
section
variable (w0 : World) (b t c : Nat) (cs : Array Value) (T : TypeId) (w : World) (sv : Value) (l : List Nat) (i : Nat) (lf : Bool) (iv kv dv fv : Value)

set_option maxRecDepth 100000 in
theorem text_any (h : RdAt w b sv i lf iv kv dv fv) (hsv : Bytes w0 sv l) (h0 : Below w0.heap.size w0 w) (hb : w0.heap.size ≤ b) (hi : i ≤ l.length) (ht : w.heap[t]? = some (.cells cs T (0, 0))) (hc : cs[c]? = some (.slice none 0 0)) (hbt : b < t) :
    Calls Try.prog 38 #[.pointer (some ⟨b, 0, none⟩), .pointer (some ⟨t, c, none⟩)] w (TextTold b t c cs T w sv l i lf iv kv dv fv) := by
  have HC := Lib.hid (size_any w0 b w sv l i lf iv kv dv fv h hsv h0 hb hi)
  have HSV := Lib.hid hsv; have H0 := Lib.hid h0; have HB := Lib.hid hb; have HI := Lib.hid hi; have HT := Lib.hid ht; have HCC := Lib.hid hc; have HBT := Lib.hid hbt; have HS := Lib.hid h.lt
  have hts : t < w.heap.size := (Array.getElem?_eq_some_iff.1 ht).1
  have HTS := Lib.hid hts
  clear h hsv h0 hb hi ht hc hbt hts
  go_enter Try.func38, Try.ntmps38
  go_wp2_with fail
  refine HC.out.mono ?_
  rintro e w1 (⟨hil, rfl, hr, ho⟩ | ⟨hil, rfl, hr, ho⟩)
  · have hcl : atB l i < 256 := HSV.out.at_lt hil
    have hb1 : Below w0.heap.size w0 w1 := Below.only H0.out HB.out (Nat.le_of_lt (Nat.lt_of_le_of_lt HB.out HS.out)) ho
    have ht1 : w1.heap[t]? = some (.cells cs T (0, 0)) := (ho.block t HTS.out (by have := HBT.out; omega)).trans HT.out
    by_cases hfit : i + 1 + atB l i ≤ l.length
    · have HN := Lib.hid (next_yes w0 b w1 sv l (i + 1) lf iv kv dv fv hr HSV.out (atB l i) hfit)
      have HP := Lib.hid (pText_at hfit)
      have hpl := pc_length hfit
      have HFI := Lib.hid hfit
      have HB1 := Lib.hid hb1; have HT1 := Lib.hid ht1; have HR := Lib.hid hr; have HO := Lib.hid ho
      unfold NextYes at HN
      generalize pc l (i + 1) (atB l i) = m at *
      generalize atB l i = y at *
      have hy : (y : Int) < 256 := by omega
      have HPL := Lib.hid hpl; have HY := Lib.hid hcl
      clear hb1 ht1 hfit hr ho hpl hcl hil HC
      go_wp2_with fail
      refine HN.out.mono ?_
      rintro e w2 ⟨u, cu, rfl, hbq, hr2, ho2⟩
      have hb2 : Below w0.heap.size w0 w2 := Below.only HB1.out HB.out (Nat.le_trans HB.out (Nat.le_of_lt HR.out.lt)) ho2
      have ht2 : w2.heap[t]? = some (.cells cs T (0, 0)) := (ho2.block t (Nat.lt_of_lt_of_le HTS.out HO.out.size) (by have := HBT.out; omega)).trans HT1.out
      have hm := hbq.below hb2
      have hbs : b ≤ w2.heap.size := Nat.le_of_lt hr2.lt
      obtain ⟨v3, w3, hrun, ho3, hg3⟩ := run_append_byt (P := Try.prog) 30 byT b (.slice none 0 0) 0 [] (World.ownsRow_nil _ _ _ _) (.slice u y cu) m hm (by have := HPL.out; have := HY.out; omega) hbs
      have hb3 : Below w2.heap.size w2 w3 := hg3.below (Below.refl _ _) (Nat.le_refl _) (by intro k hk; simp [Value.ownBlock] at hk)
      have ho3' : w3.ownsRow b 5 1 v3 m.length (cellsOf m) := by simpa using ho3
      have ht3 : w3.heap[t]? = some (.cells cs T (0, 0)) := (hb3.block t (Nat.lt_of_lt_of_le HTS.out (Nat.le_trans HO.out.size ho2.size))).trans ht2
      have hv3 : v3.ownBlock ≠ some t := by
        rcases hg3.new with hh | ⟨g, hh, hg⟩
        · rw [hh]; simp [Value.ownBlock]
        · rw [hh]; intro e
          have := Option.some.inj e
          have := HTS.out; have := HO.out.size; have := ho2.size
          omega
      have htx : Txt (w3.setCell ⟨t, c, none⟩ v3) b v3 m := ⟨owns_stay ho3' (fun k hk => heap_setCell_other w3 _ k _ (fun e => hv3 (by rw [hk, e]))), hm.small, hm.short⟩
      have hct := cells_of ht3 c
      rw [HCC.out] at hct
      have hft := free_of ht3 c
      have hr3 : RdAt (w3.setCell ⟨t, c, none⟩ v3) b sv (i + 1 + y) lf iv kv dv fv := (heap_setCell_other w3 ⟨t, c, none⟩ b v3 (by have := HBT.out; show b ≠ t; omega)).trans (hr2.below' hb3)
      have hon : Only2 b t w (w3.setCell ⟨t, c, none⟩ v3) := ((((HO.out.trans ho2).trans (Only.of_below hb3))).two t).trans (Only2.set b t c w3 v3)
      have htt : (w3.setCell ⟨t, c, none⟩ v3).heap[t]? = some (.cells (cs.setIfInBounds c v3) T (0, 0)) := set_heap ht3 c v3
      have HTX := Lib.hid htx; have HR3 := Lib.hid hr3; have HON := Lib.hid hon; have HTT := Lib.hid htt; have HRUN := Lib.hid hrun
      obtain ⟨pv, cv, rfl⟩ := shape_of ho3'
      clear hb2 ht2 hm hbs hrun ho3 hg3 hb3 ho3' ht3 hv3 htx hr3 hon htt hr2 ho2 hbq HN HT1 HR HO HB1
      go_wp2_with (at_builtin; refine Lib.wpList_append_run _ rfl (.const (.slice none 0 0)) (.tmp 22) 30 30 rfl _ _ rfl rfl _ w3 HRUN.out ?_)
      go_ret
      exact ⟨_, _, _, _, rfl, HTX.out, HTT.out, HR3.out, HON.out, HFI.out, .inl ⟨rfl, HP.out⟩⟩
    · have HN := Lib.hid (next_no w0 b w1 sv l (i + 1) lf iv kv dv fv hr HSV.out (atB l i) hil (by omega) (by omega))
      have HP := Lib.hid (pText_no hfit (by omega))
      have HT1 := Lib.hid ht1; have HO := Lib.hid ho; have HIL := Lib.hid hil
      unfold NextNo at HN
      generalize atB l i = y at *
      have hy : (y : Int) < 256 := by omega
      clear hb1 ht1 hfit hr ho hcl hil HC
      go_wp2_with fail
      refine HN.out.mono ?_
      rintro e w2 ⟨rfl, hr2, ho2⟩
      have ht2 : w2.heap[t]? = some (.cells cs T (0, 0)) := (ho2.block t (Nat.lt_of_lt_of_le HTS.out HO.out.size) (by have := HBT.out; omega)).trans HT1.out
      have hct := cells_of ht2 c
      rw [HCC.out] at hct
      have hft := free_of ht2 c
      have hr3 : RdAt (w2.setCell ⟨t, c, none⟩ (.slice none 0 0)) b sv (i + 1) lf iv kv dv fv := (heap_setCell_other w2 ⟨t, c, none⟩ b _ (by have := HBT.out; show b ≠ t; omega)).trans hr2
      have hon : Only2 b t w (w2.setCell ⟨t, c, none⟩ (.slice none 0 0)) := ((HO.out.trans ho2).two t).trans (Only2.set b t c w2 _)
      have htt : (w2.setCell ⟨t, c, none⟩ (.slice none 0 0)).heap[t]? = some (.cells (cs.setIfInBounds c (.slice none 0 0)) T (0, 0)) := set_heap ht2 c _
      have HR3 := Lib.hid hr3; have HON := Lib.hid hon; have HTT := Lib.hid htt
      clear ht2 hr3 hon htt hr2 ho2 HN HT1 HO
      go_wp2_with (at_builtin; refine Lib.wpList_append_run _ rfl (.const (.slice none 0 0)) (.tmp 22) 30 30 rfl _ _ rfl rfl (.slice none 0 0) w2 (by kernel_rfl) ?_)
      go_ret
      exact ⟨_, [], _, _, rfl, Txt.nil _ _, HTT.out, HR3.out, HON.out, HIL.out, .inr ⟨rfl, HP.out⟩⟩
  · have HP := Lib.hid (pText_no (l := l) (i := i) (by omega) HI.out)
    have HT1 : Hid (w1.heap[t]? = some (.cells (cs.setIfInBounds c (.slice none 0 0)) T (0, 0))) := by
      unfold Hid
      rw [set_same HCC.out]
      exact (ho.block t HTS.out (by have := HBT.out; omega)).trans HT.out
    have HR := Lib.hid hr; have HO := Lib.hid (ho.two t)
    clear hr ho hil HC
    go_wp2
    go_ret
    exact ⟨_, [], _, _, rfl, Txt.nil _ _, HT1.out, HR.out, HO.out, HI.out, .inr ⟨rfl, HP.out⟩⟩

/-- Where the number stands as it is read. -/
def NumRel (b t : Nat) (T : TypeId) (w : World) (sv : Value) (i : Nat) (lf : Bool) (iv kv dv fv : Value) (m : List Nat) (n : Value) (wr : World) : Prop :=
  ∃ k : Nat, k ≤ m.length ∧ n = .int .i64 k ∧ wr.heap[t]? = some (.cells #[.int .u64 (numOf (m.take k) : Nat)] T (0, 0)) ∧ RdAt wr b sv i lf iv kv dv fv ∧ Only2 b t w wr

set_option maxRecDepth 100000 in
set_option maxHeartbeats 1000000 in
theorem number_any (h : RdAt w b sv i lf iv kv dv fv) (hsv : Bytes w0 sv l) (h0 : Below w0.heap.size w0 w) (hb : w0.heap.size ≤ b) (hi : i ≤ l.length) (ht : w.heap[t]? = some (.cells #[.int .u64 0] T (0, 0))) (hbt : b < t) :
    Calls Try.prog 39 #[.pointer (some ⟨b, 0, none⟩), .pointer (some ⟨t, 0, none⟩)] w (NumTold b t T w sv l i lf iv kv dv fv) := by
  have HSV := Lib.hid hsv; have H0 := Lib.hid h0; have HB := Lib.hid hb; have HI := Lib.hid hi; have HT := Lib.hid ht; have HBT := Lib.hid hbt; have HS := Lib.hid h.lt
  have hts : t < w.heap.size := (Array.getElem?_eq_some_iff.1 ht).1
  have HTS := Lib.hid hts
  by_cases hfit : i + 8 ≤ l.length
  · have HC := Lib.hid (next_yes w0 b w sv l i lf iv kv dv fv h hsv 8 hfit)
    have HP := Lib.hid (pTake_at hfit)
    have hpl := pc_length hfit
    have HFI := Lib.hid hfit
    unfold NextYes at HC
    generalize pc l i 8 = m at *
    have HPL := Lib.hid hpl
    clear h hsv h0 hb hi ht hbt hts hfit hpl
    go_enter Try.func39, Try.ntmps39
    go_wp2_with fail
    refine HC.out.mono ?_
    rintro e w1 ⟨u, cu, rfl, hbq, hr, ho⟩
    have HV := Lib.hid hbq
    have hb1 : Below w0.heap.size w0 w1 := Below.only H0.out HB.out (Nat.le_of_lt (Nat.lt_of_le_of_lt HB.out HS.out)) ho
    have ht1 : w1.heap[t]? = some (.cells #[.int .u64 0] T (0, 0)) := (ho.block t HTS.out (by have := HBT.out; omega)).trans HT.out
    have hct := cells_of ht1 0
    simp only [List.getElem?_toArray, List.getElem?_cons_zero] at hct
    have hft := free_of ht1 0
    have hrel0 : NumRel b t T w sv (i + 8) lf iv kv dv fv m (.int .i64 (0 : Nat)) (w1.setCell ⟨t, 0, none⟩ (.int .u64 0)) :=
      ⟨0, Nat.zero_le _, rfl, set_heap ht1 0 _, (heap_setCell_other w1 ⟨t, 0, none⟩ b _ (by have := HBT.out; show b ≠ t; omega)).trans hr, (ho.two t).trans (Only2.set b t 0 w1 _)⟩
    have HREL := Lib.hid hrel0
    clear hbq hr ho hb1 ht1 hrel0 HC
    go_wp2
    go_loopw [18] (fun n W => NumRel b t T w sv (i + 8) lf iv kv dv fv m n W) (fun n _ => 8 - (intOf n).toNat)
    case atStart => exact HREL.out
    case round =>
      clear HREL
      obtain ⟨k, hk, rfl, htr, hrr, hor⟩ := hrel
      by_cases hlt : k < 8
      · have hlm : k < m.length := by rw [HPL.out]; exact hlt
        have hbr : Below w0.heap.size w0 wr := Below.only2 H0.out HB.out (by have := HB.out; have := HBT.out; omega) (Nat.le_of_lt (Nat.lt_of_le_of_lt HB.out HS.out)) hor
        obtain ⟨b1, o1, rfl, hcell⟩ := (HV.out.below hbr).spot k hlm
        have hn : numOf (m.take k) < 72057594037927936 := by
          have h1 := numOf_lt (m.take k) (fun c hc => HV.out.small c (List.mem_of_mem_take hc))
          have h2 : 256 ^ (m.take k).length ≤ 256 ^ 7 := Nat.pow_le_pow_right (by omega) (by rw [List.length_take]; omega)
          exact Nat.lt_of_lt_of_le h1 (Nat.le_trans h2 (by decide))
        have hcl : atB m k < 256 := HV.out.at_lt hlm
        have hs : numOf (m.take (k + 1)) = numOf (m.take k) * 256 + atB m k := by
          rw [List.take_succ_eq_append_getElem hlm, numOf_snoc, atB_of hlm]
        have e1 := or_byte64 (numOf (m.take k)) (atB m k) hn hcl
        have e2 : IntKind.u64.wrap ((numOf (m.take k) : Int) * 256) = ((numOf (m.take k) * 256 : Nat) : Int) := by rw [IntKind.wrap_u64]; omega
        have hdt := cells_of htr 0
        simp only [List.getElem?_toArray, List.getElem?_cons_zero] at hdt
        have hft2 := free_of htr 0
        have hnx : NumRel b t T w sv (i + 8) lf iv kv dv fv m (.int .i64 (k + 1 : Nat)) (wr.setCell ⟨t, 0, none⟩ (.int .u64 (numOf (m.take k) * 256 + atB m k : Nat))) :=
          ⟨k + 1, hlm, rfl, by rw [hs]; exact set_heap htr 0 _, (heap_setCell_other wr ⟨t, 0, none⟩ b _ (by have := HBT.out; show b ≠ t; omega)).trans hrr, hor.trans (Only2.set b t 0 wr _)⟩
        have HNX := Lib.hid hnx
        clear hs hlm hbr htr hrr hor hnx
        generalize numOf (m.take k) * 256 = z at *
        generalize numOf (m.take k) = x at *
        generalize atB m k = y at *
        generalize hzy : z + y = zy at *
        clear hn hzy
        go_wp2
        go_roundw
        case rel => exact HNX.out
        case measure => simp [intOf]; omega
      · have hk8 : k = 8 := by have := HPL.out; omega
        subst hk8
        rw [List.take_of_length_le (by rw [HPL.out]; omega)] at htr
        have HTR := Lib.hid htr; have HRR := Lib.hid hrr; have HOR := Lib.hid hor
        have HNL : Hid (numOf m < 18446744073709551616) := by
          have h1 := numOf_lt m (fun c hc => HV.out.small c hc)
          rw [HPL.out] at h1
          exact h1
        clear htr hrr hor
        go_wp2
        go_ret
        exact ⟨_, _, _, rfl, HNL.out, HTR.out, HRR.out, HOR.out, HFI.out, .inl ⟨rfl, _, HP.out, rfl⟩⟩
  · have HC := Lib.hid (next_no w0 b w sv l i lf iv kv dv fv h hsv 8 hi (by omega) (by omega))
    have HP := Lib.hid (pTake_no hfit hi)
    unfold NextNo at HC
    clear h hsv h0 hb hi ht hbt hts hfit
    go_enter Try.func39, Try.ntmps39
    go_wp2_with fail
    refine HC.out.mono ?_
    rintro e w1 ⟨rfl, hr, ho⟩
    have ht1 : w1.heap[t]? = some (.cells #[.int .u64 0] T (0, 0)) := (ho.block t HTS.out (by have := HBT.out; omega)).trans HT.out
    have hct := cells_of ht1 0
    simp only [List.getElem?_toArray, List.getElem?_cons_zero] at hct
    have hft := free_of ht1 0
    have HTT : Hid ((w1.setCell ⟨t, 0, none⟩ (.int .u64 0)).heap[t]? = some (.cells #[.int .u64 (0 : Nat)] T (0, 0))) := set_heap ht1 0 _
    have HR : Hid (RdAt (w1.setCell ⟨t, 0, none⟩ (.int .u64 0)) b sv i lf iv kv dv fv) := (heap_setCell_other w1 ⟨t, 0, none⟩ b _ (by have := HBT.out; show b ≠ t; omega)).trans hr
    have HO := Lib.hid ((ho.two t).trans (Only2.set b t 0 w1 (.int .u64 0)))
    clear ht1 hr ho HC
    go_wp2
    go_loopw [18] (fun n W => n = .int .i64 0 ∧ W = w1.setCell ⟨t, 0, none⟩ (.int .u64 0)) (fun _ _ => 0)
    case atStart => exact ⟨rfl, rfl⟩
    case round =>
      obtain ⟨rfl, rfl⟩ := hrel
      go_wp2
      go_ret
      exact ⟨_, _, _, rfl, by decide, HTT.out, HR.out, HO.out, HI.out, .inr ⟨rfl, HP.out⟩⟩
end
end Go.Proofs.Ytbjjaabmdjbodaa

