/- The document's reader, its bytes where they were handed in. -/
import Derived.Test.YtdbgihpognfhdaaGreatMTxtJ
import Derived.Test.YtdbgihpognfhdaaGreatMNdN
namespace Go.Proofs.YtdbgihpognfhdaaGreat.Sl.Nd
open Go Go.RowKit Go.By
def RdOf (w0 w : World) (g : Nat) (l : List Nat) (bad : Bool) : Prop := ∃ v, w.heap[g]? = some (.cells #[v, .bool bad] 183 (0, 0)) ∧ Bytes w0 v l
set_option maxRecDepth 100000 in
theorem roTake_any (w0 : World) (g n : Nat) (l : List Nat) (bad : Bool) (w : World) (h : RdOf w0 w g l bad) (h0 : Below w0.heap.size w0 w) (hn : n ≤ 1000000) :
    Calls Tryz.prog 130 #[.pointer (some ⟨g, 0, none⟩), .int .i64 n] w fun e w' => ∃ v' l' bad', e = .returned v' ∧ w'.ownsRow w.heap.size 5 1 v' (rdTake n (rdS l bad)).1.length (cellsOf (rdTake n (rdS l bad)).1) ∧ rdS l' bad' = (rdTake n (rdS l bad)).2 ∧ RdOf w0 w' g l' bad' ∧ w.grownBy w' (some g) := by
  obtain ⟨v, hg, hv0⟩ := h
  have hv := hv0.below h0
  have hnv := bytes_slice hv
  have hgs : g < w.heap.size := (Array.getElem?_eq_some_iff.1 hg).1
  have hm := hv.short
  unfold maxLen at hm
  obtain ⟨p, cap, hveq⟩ : ∃ p cap, v = .slice p l.length cap := let ⟨p, cap, h, _⟩ := hv.any; ⟨p, cap, h⟩
  subst hveq
  have hc0 : w.cell? ⟨g, 0, none⟩ = some (.slice p l.length cap) := cells_of hg 0
  have hc1 : w.cell? ⟨g, 1, none⟩ = some (.bool bad) := cells_of hg 1
  have hf0 := free_of hg 0
  have hf1 := free_of hg 1
  by_cases hgt : l.length < n
  · have E : Hid (rdTake n (rdS l bad) = ([], none)) := by
      unfold Hid rdTake rdS
      cases bad
      · simp; omega
      · rfl
    have hr : RdOf w0 (w.setCell ⟨g, 1, none⟩ (.bool true)) g l true := ⟨_, (heap_setCell_same w g 1 _ _ _ hg), hv0⟩
    have hgb : w.grownBy (w.setCell ⟨g, 1, none⟩ (.bool true)) (some g) := ⟨rfl, rfl, rfl, by simp [World.setCell], fun k _ hne => heap_setCell_other w _ k _ (fun e => hne (by rw [e]))⟩
    have HR := Lib.hid hr; have HG := Lib.hid hgb
    have hgt' : (l.length : Int) < n := by omega
    clear hr hgb hg hv hv0 hgt
    go_enter Tryz.func130, Tryz.ntmps130
    go_wp2
    go_ret
    exact ⟨_, l, true, rfl, by rw [E.out]; exact World.ownsRow_nil _ _ _ _, by rw [E.out]; rfl, HR.out, HG.out⟩
  · cases bad with
    | true =>
      have E : Hid (rdTake n (rdS l true) = ([], none)) := rfl
      have HR : Hid (RdOf w0 w g l true) := ⟨_, hg, hv0⟩
      have hgt' : (n : Int) ≤ l.length := by omega
      clear hg hv hv0 hgt
      go_enter Tryz.func130, Tryz.ntmps130
      go_wp2
      go_ret
      exact ⟨_, l, true, rfl, by rw [E.out]; exact World.ownsRow_nil _ _ _ _, by rw [E.out]; rfl, HR.out, World.grownBy.refl _ _⟩
    | false =>
      have hle : n ≤ l.length := by omega
      have E : Hid (rdTake n (rdS l false) = (l.take n, some (l.drop n))) := by
        unfold Hid rdTake rdS
        simp [hle]
      obtain ⟨q, c, hr, hq0⟩ := tail_run hv0 n (n : Int) rfl hle
      have hu := fun w => upto_runI p l.length cap n (n : Int) rfl (by have := hv.room.2; omega) w
      have hW := fun k (_ : k < w.heap.size) (hne : k ≠ g) => heap_setCell_other w ⟨g, 0, none⟩ k (.slice q (l.length - n) c) hne
      have hT := hq0
      have hY := bytes_beside (hv.upto hle) hg hnv hW
      have hgW : (w.setCell ⟨g, 0, none⟩ (.slice q (l.length - n) c)).heap[g]? = some (.cells #[.slice q (l.length - n) c, .bool false] 183 (0, 0)) := heap_setCell_same w g 0 _ _ _ hg
      have hgbW : w.grownBy (w.setCell ⟨g, 0, none⟩ (.slice q (l.length - n) c)) (some g) := ⟨rfl, rfl, rfl, by simp [World.setCell], fun k _ hne => heap_setCell_other w _ k _ (fun e => hne (by rw [e]))⟩
      have hzW : (w.setCell ⟨g, 0, none⟩ (.slice q (l.length - n) c)).heap.size = w.heap.size := by simp [World.setCell]
      have hle' : (n : Int) ≤ l.length := by omega
      have HT := Lib.hid hT; have HY := Lib.hid hY; have HGW := Lib.hid hgW; have HGB := Lib.hid hgbW; have HZ := Lib.hid hzW
      have HL : Hid ((l.take n).length = n) := by unfold Hid; rw [List.length_take]; omega
      have HSM : Hid (∀ c ∈ l.take n, c < 256) := fun c hc => hv.small c (List.mem_of_mem_take hc)
      obtain ⟨Ws, hWs⟩ : ∃ Ws, Ws = w.setCell ⟨g, 0, none⟩ (.slice q (l.length - n) c) := ⟨_, rfl⟩
      have hown0 : ((w.setCell ⟨g, 0, none⟩ (.slice q (l.length - n) c)).alloc (.cells #[] 5)).ownsRow w.heap.size 5 1 (.slice (some ⟨w.heap.size, 0, none⟩) 0 0) 0 [] := by
        have := World.ownsRow_made (base := w.heap.size) (size := 1) (e := 5) (w.setCell ⟨g, 0, none⟩ (.slice q (l.length - n) c)) #[] 0 (by rw [hzW]; exact Nat.le_refl _) (by decide) rfl
        rw [hzW] at this
        exact this
      have HO0 := Lib.hid hown0
      have hY' := hY.below ((Below.refl _ _).alloc (Nat.le_refl _) (.cells #[] 5))
      have HY' := Lib.hid hY'
      clear hT hY hgW hgbW hzW hW hq0 hv hv0 hg hnv hgt hle hown0 hWs Ws hY'
      go_enter Tryz.func130, Tryz.ntmps130
      go_wp2_with (at_builtin; go_loud (refine wpList_append_bytes rfl (.tmp 35) (.tmp 36) byT rfl w.heap.size (.slice (some ⟨w.heap.size, 0, none⟩) 0 0) 0 [] rfl HO0.out (.slice p n cap) (l.take n) rfl HY'.out (by rw [HL.out]; omega) (by rw [World.size_alloc, HZ.out]; omega) ?_); intro v2 w2 hown2 hgrow2 _)
      have hgb2 : w.grownBy w2 (some g) := ⟨hgrow2.os, hgrow2.tape, hgrow2.output, by have := hgrow2.size; rw [World.size_alloc, HZ.out] at this; omega, fun k hk hne => by
        rw [hgrow2.block k (by rw [World.size_alloc, HZ.out]; omega) (by simp only [Value.ownBlock]; intro h; have := Option.some.inj h; omega), Below.heap_alloc _ _ _ (by rw [HZ.out]; exact hk)]
        exact HGB.out.block k hk hne⟩
      have hg2 : w2.heap[g]? = some (.cells #[.slice q (l.length - n) c, .bool false] 183 (0, 0)) := by
        rw [hgrow2.block g (by rw [World.size_alloc, HZ.out]; omega) (by simp only [Value.ownBlock]; intro h; have := Option.some.inj h; omega), Below.heap_alloc _ _ _ (by rw [HZ.out]; exact hgs)]
        exact HGW.out
      have hbb : Below w.heap.size (w.setCell ⟨g, 0, none⟩ (.slice q (l.length - n) c)) w2 := ((Below.refl _ _).alloc (by rw [HZ.out]; omega) _).grown hgrow2 (by rw [World.size_alloc, HZ.out]; omega) (by simp [Value.ownBlock])
      have hr2 : RdOf w0 w2 g (l.drop n) false := ⟨_, hg2, HT.out⟩
      have ho2 : w2.ownsRow w.heap.size 5 1 v2 (l.take n).length (cellsOf (l.take n)) := by
        rw [HL.out]
        have h := hown2
        rw [Nat.zero_add, List.nil_append, HL.out] at h
        exact h
      have HR2 := Lib.hid hr2; have HG2 := Lib.hid hgb2; have HO2 := Lib.hid ho2
      clear hown2 hgrow2 hgb2 hg2 hbb hr2 ho2
      go_wp2
      go_ret
      exact ⟨_, l.drop n, false, rfl, by rw [E.out]; exact HO2.out, by rw [E.out]; rfl, HR2.out, HG2.out⟩
theorem RdOf.small {w0 w : World} {g : Nat} {l : List Nat} {bad : Bool} (h : RdOf w0 w g l bad) : ∀ c ∈ l, c < 256 := let ⟨_, _, h⟩ := h; h.small
set_option maxRecDepth 100000 in
theorem roNum_any (w0 : World) (g n : Nat) (l : List Nat) (bad : Bool) (w : World) (h : RdOf w0 w g l bad) (h0 : Below w0.heap.size w0 w) (_hb : w0.heap.size ≤ g) (hn : n ≤ 8) :
    Calls Tryz.prog 99 #[.pointer (some ⟨g, 0, none⟩), .int .i64 n] w fun e w' => ∃ l' bad', e = .returned (.int .u64 (numOf (rdTake n (rdS l bad)).1 : Nat)) ∧ rdS l' bad' = (rdTake n (rdS l bad)).2 ∧ RdOf w0 w' g l' bad' ∧ w.grownBy w' (some g) := by
  have HH := Lib.hid h
  have H := Lib.hid (roTake_any w0 g n l bad w h h0 (by omega))
  clear h
  go_enter Tryz.func99, Tryz.ntmps99
  go_wp2_with fail
  refine H.out.mono ?_
  rintro e w1 ⟨v1, l1, b1, rfl, ho, hs, hr, hg⟩
  have HN := Lib.hid (num_any v1 _ w1 (Bytes.of_owns ho (rdTake_small HH.out.small) (Nat.le_trans rdTake_short (by unfold maxLen; omega))) (Nat.le_trans rdTake_short hn))
  have HR := Lib.hid hr; have HS := Lib.hid hs; have HG := Lib.hid hg
  clear ho hs hr hg
  go_wp2_with fail
  refine HN.out.mono ?_
  rintro e w2 ⟨rfl, rfl⟩
  generalize hN : numOf (rdTake n (rdS l bad)).1 = N at *
  have HN2 := Lib.hid hN
  clear hN
  go_wp2
  go_ret
  exact ⟨l1, b1, by rw [HN2.out]; rfl, HS.out, HR.out, HG.out⟩
set_option maxRecDepth 100000 in
theorem roText_any (w0 : World) (g : Nat) (l : List Nat) (bad : Bool) (w : World) (h : RdOf w0 w g l bad) (h0 : Below w0.heap.size w0 w) (hb : w0.heap.size ≤ g) :
    Calls Tryz.prog 100 #[.pointer (some ⟨g, 0, none⟩)] w fun e w' => ∃ v' l' bad', e = .returned v' ∧ w'.ownsRow w.heap.size 5 1 v' (rdText (rdS l bad)).1.length (cellsOf (rdText (rdS l bad)).1) ∧ rdS l' bad' = (rdText (rdS l bad)).2 ∧ RdOf w0 w' g l' bad' ∧ w.grownBy w' (some g) := by
  have HH := Lib.hid h; have HB0 := Lib.hid h0; have HBG := Lib.hid hb
  have H := Lib.hid (roNum_any w0 g 1 l bad w h h0 hb (by omega))
  have hlt := numOf_lt _ (rdTake_small (n := 1) (bad := bad) h.small)
  have hle : numOf (rdTake 1 (rdS l bad)).1 < 256 := Nat.lt_of_lt_of_le hlt (Nat.le_trans (Nat.pow_le_pow_right (by omega) (rdTake_short (n := 1))) (by decide))
  clear h hlt
  obtain ⟨N, hN⟩ : ∃ N, N = numOf (rdTake 1 (rdS l bad)).1 := ⟨_, rfl⟩
  rw [← hN] at H hle
  have hle' : (N : Int) < 256 := by omega
  have HNE := Lib.hid hN; have HLE := Lib.hid hle
  clear hN hle
  go_enter Tryz.func100, Tryz.ntmps100
  go_wp2_with fail
  refine H.out.mono ?_
  rintro e w1 ⟨l1, b1, rfl, hs, hr, hg⟩
  have HT := Lib.hid (roTake_any w0 g N l1 b1 w1 hr (HB0.out.grown hg HB0.out.size (fun j hj => by obtain rfl := Option.some.inj hj; exact HBG.out)) (by have := HLE.out; omega))
  have HS := Lib.hid hs; have HG := Lib.hid hg
  clear hs hr hg
  go_wp2_with fail
  refine HT.out.mono ?_
  rintro e w2 ⟨v2, l2, b2, rfl, ho, hs2, hr2, hg2⟩
  rw [HS.out, HNE.out] at ho hs2
  have HG2 : Hid (w.grownBy w2 (some g)) := ⟨hg2.os.trans HG.out.os, hg2.tape.trans HG.out.tape, hg2.output.trans HG.out.output, Nat.le_trans HG.out.size hg2.size, fun k hk hne => (hg2.block k (Nat.lt_of_lt_of_le hk HG.out.size) hne).trans (HG.out.block k hk hne)⟩
  have HO2 := Lib.hid (owns_base ho HG.out.size); have HS2 := Lib.hid hs2; have HR2 := Lib.hid hr2
  clear ho hs2 hr2 hg2
  go_wp2
  go_ret
  exact ⟨v2, l2, b2, rfl, HO2.out, HS2.out, HR2.out, HG2.out⟩
end Go.Proofs.YtdbgihpognfhdaaGreat.Sl.Nd
