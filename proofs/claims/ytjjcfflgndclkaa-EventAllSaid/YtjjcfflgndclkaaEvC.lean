/- Events in a program: the document's reader. -/
import Derived.Test.YtjjcfflgndclkaaRefO
import Derived.Test.YtjjcfflgndclkaaEvP
import Derived.Test.YtjjcfflgndclkaaConvB
namespace Go.By
open Go Go.RowKit
theorem OwnM.base' {w : World} {B B' : Nat} {v : Value} {l : List Nat} (h : OwnM w B v l) (hb : B' ≤ B) : OwnM w B' v l := by
  rcases h with h | ⟨g, cap, rfl, h1, h2⟩
  · exact .inl h
  · exact .inr ⟨g, cap, rfl, Nat.le_trans hb h1, h2⟩
end Go.By
namespace Go.Proofs.Ytjjcfflgndclkaa
open Go Go.RowKit Go.By

/-- A reader in its block: what is left, and whether there was too little. -/
def RdIs (w : World) (g : Nat) (l : List Nat) (bad : Bool) : Prop := ∃ v, w.heap[g]? = some (.cells #[v, .bool bad] 43 (0, 0)) ∧ Bytes w v l
def rdS (l : List Nat) (bad : Bool) : Option (List Nat) := if bad = true then none else some l

/-- Bytes do not lie in the reader's block. -/
theorem bytes_beside {w w' : World} {v u : Value} {l : List Nat} {g : Nat} {b : Bool} (h : Bytes w v l) (hg : w.heap[g]? = some (.cells #[u, .bool b] 43 (0, 0))) (hu : ∀ k n, u ≠ .int k n) (hk : ∀ k, k < w.heap.size → k ≠ g → w'.heap[k]? = w.heap[k]?) : Bytes w' v l where
  out := by
    rcases h.out with h1 | h1 | ⟨b', off, cap, rfl, h2, hc⟩
    · exact .inl h1
    · exact .inr (.inl h1)
    · refine .inr <| .inr ⟨b', off, cap, rfl, h2, fun i hi => ?_⟩
      have hci := hc i hi
      have hlt := block_lt_of_cell hci
      have hne : b' ≠ g := by
        rintro rfl
        rw [cells_of hg] at hci
        match off + i, hci with
        | 0, hci => simp at hci; exact hu _ _ hci
        | 1, hci => simp at hci
        | k + 2, hci => simp at hci
      rw [World.cell?_of_block (w := w) (hk b' hlt hne)]
      exact hci
  small := h.small
  short := h.short
theorem bytes_slice {w : World} {v : Value} {l : List Nat} (h : Bytes w v l) : ∀ k n, v ≠ .int k n := by
  obtain ⟨p, cap, rfl, _⟩ := h.any
  intro k n h; cases h

set_option maxRecDepth 100000 in
theorem rdTake_any (g n : Nat) (l : List Nat) (bad : Bool) (w : World) (h : RdIs w g l bad) (hn : n ≤ 1000000) :
    Calls Try.prog 38 #[.pointer (some ⟨g, 0, none⟩), .int .i64 n] w fun e w' => ∃ v' l' bad', e = .returned v' ∧ OwnM w' w.heap.size v' (rdTake n (rdS l bad)).1 ∧ rdS l' bad' = (rdTake n (rdS l bad)).2 ∧ RdIs w' g l' bad' ∧ w.grownBy w' (some g) := by
  obtain ⟨v, hg, hv⟩ := h
  have hnv := bytes_slice hv
  have hgs : g < w.heap.size := (Array.getElem?_eq_some_iff.1 hg).1
  have hm := hv.short
  unfold maxLen at hm
  obtain ⟨p, cap, hveq⟩ : ∃ p cap, v = .slice p l.length cap := let ⟨p, cap, h, _⟩ := hv.any; ⟨p, cap, h⟩
  subst hveq
  have hc0 : w.cell? ⟨g, 0, none⟩ = some (.slice p l.length cap) := cells_of hg 0
  have hc1 : w.cell? ⟨g, 1, none⟩ = some (.bool bad) := cells_of hg 1
  have hf0 := free_of hg 0
  have hf1 := free_of hg 1
  by_cases hgt : l.length < n
  · have E : Hid (rdTake n (rdS l bad) = ([], none)) := by
      unfold Hid rdTake rdS
      cases bad
      · simp; omega
      · rfl
    have hr : RdIs (w.setCell ⟨g, 1, none⟩ (.bool true)) g l true := ⟨_, (heap_setCell_same w g 1 _ _ _ hg), bytes_beside hv hg hnv (fun k _ hne => heap_setCell_other w _ k _ hne)⟩
    have hgb : w.grownBy (w.setCell ⟨g, 1, none⟩ (.bool true)) (some g) := ⟨rfl, rfl, rfl, by simp [World.setCell], fun k _ hne => heap_setCell_other w _ k _ (fun e => hne (by rw [e]))⟩
    have HR := Lib.hid hr; have HG := Lib.hid hgb
    have hgt' : (l.length : Int) < n := by omega
    clear hr hgb hg hv hgt
    go_enter Try.func38, Try.ntmps38
    go_wp2
    go_ret
    exact ⟨_, l, true, rfl, by rw [E.out]; exact .inl ⟨rfl, rfl⟩, by rw [E.out]; rfl, HR.out, HG.out⟩
  · cases bad with
    | true =>
      have E : Hid (rdTake n (rdS l true) = ([], none)) := rfl
      have HR : Hid (RdIs w g l true) := ⟨_, hg, hv⟩
      have hgt' : (n : Int) ≤ l.length := by omega
      clear hg hv hgt
      go_enter Try.func38, Try.ntmps38
      go_wp2
      go_ret
      exact ⟨_, l, true, rfl, by rw [E.out]; exact .inl ⟨rfl, rfl⟩, by rw [E.out]; rfl, HR.out, World.grownBy.refl _ _⟩
    | false =>
      have hle : n ≤ l.length := by omega
      have E : Hid (rdTake n (rdS l false) = (l.take n, some (l.drop n))) := by
        unfold Hid rdTake rdS
        simp [hle]
      obtain ⟨q, c, hr, hq⟩ := tail_run hv n (n : Int) rfl hle
      have hu := fun w => upto_runI p l.length cap n (n : Int) rfl (by have := hv.room.2; omega) w
      have hqn := bytes_slice hq
      have hW := fun k (_ : k < w.heap.size) (hne : k ≠ g) => heap_setCell_other w ⟨g, 0, none⟩ k (.slice q (l.length - n) c) hne
      have hT := bytes_beside hq hg hnv hW
      have hY := bytes_beside (hv.upto hle) hg hnv hW
      have hgW : (w.setCell ⟨g, 0, none⟩ (.slice q (l.length - n) c)).heap[g]? = some (.cells #[.slice q (l.length - n) c, .bool false] 43 (0, 0)) := heap_setCell_same w g 0 _ _ _ hg
      have hgbW : w.grownBy (w.setCell ⟨g, 0, none⟩ (.slice q (l.length - n) c)) (some g) := ⟨rfl, rfl, rfl, by simp [World.setCell], fun k _ hne => heap_setCell_other w _ k _ (fun e => hne (by rw [e]))⟩
      have hzW : (w.setCell ⟨g, 0, none⟩ (.slice q (l.length - n) c)).heap.size = w.heap.size := by simp [World.setCell]
      have hle' : (n : Int) ≤ l.length := by omega
      have HT := Lib.hid hT; have HY := Lib.hid hY; have HGW := Lib.hid hgW; have HGB := Lib.hid hgbW; have HZ := Lib.hid hzW
      have HL : Hid ((l.take n).length = n) := by unfold Hid; rw [List.length_take]; omega
      have HSM : Hid (∀ c ∈ l.take n, c < 256) := fun c hc => hv.small c (List.mem_of_mem_take hc)
      obtain ⟨Ws, hWs⟩ : ∃ Ws, Ws = w.setCell ⟨g, 0, none⟩ (.slice q (l.length - n) c) := ⟨_, rfl⟩
      have hown0 : ((w.setCell ⟨g, 0, none⟩ (.slice q (l.length - n) c)).alloc (.cells #[] 5)).ownsRow w.heap.size 5 1 (.slice (some ⟨w.heap.size, 0, none⟩) 0 0) 0 [] := by
        have := World.ownsRow_made (base := w.heap.size) (size := 1) (e := 5) (w.setCell ⟨g, 0, none⟩ (.slice q (l.length - n) c)) #[] 0 (by rw [hzW]; exact Nat.le_refl _) (by decide) rfl
        rw [hzW] at this
        exact this
      have HO0 := Lib.hid hown0
      have hY' := hY.below ((Below.refl _ _).alloc (Nat.le_refl _) (.cells #[] 5))
      have HY' := Lib.hid hY'
      clear hT hY hgW hgbW hzW hW hq hv hg hnv hqn hgt hle hown0 hWs Ws hY'
      go_enter Try.func38, Try.ntmps38
      go_wp2_with (at_builtin; go_loud (refine wpList_append_bytes rfl (.tmp 35) (.tmp 36) byT rfl w.heap.size (.slice (some ⟨w.heap.size, 0, none⟩) 0 0) 0 [] rfl HO0.out (.slice p n cap) (l.take n) rfl HY'.out (by rw [HL.out]; omega) (by rw [World.size_alloc, HZ.out]; omega) ?_); intro v2 w2 hown2 hgrow2 _)
      have hgb2 : w.grownBy w2 (some g) := ⟨hgrow2.os, hgrow2.tape, hgrow2.output, by have := hgrow2.size; rw [World.size_alloc, HZ.out] at this; omega, fun k hk hne => by
        rw [hgrow2.block k (by rw [World.size_alloc, HZ.out]; omega) (by simp only [Value.ownBlock]; intro h; have := Option.some.inj h; omega), Below.heap_alloc _ _ _ (by rw [HZ.out]; exact hk)]
        exact HGB.out.block k hk hne⟩
      have hg2 : w2.heap[g]? = some (.cells #[.slice q (l.length - n) c, .bool false] 43 (0, 0)) := by
        rw [hgrow2.block g (by rw [World.size_alloc, HZ.out]; omega) (by simp only [Value.ownBlock]; intro h; have := Option.some.inj h; omega), Below.heap_alloc _ _ _ (by rw [HZ.out]; exact hgs)]
        exact HGW.out
      have hbb : Below w.heap.size (w.setCell ⟨g, 0, none⟩ (.slice q (l.length - n) c)) w2 := ((Below.refl _ _).alloc (by rw [HZ.out]; omega) _).grown hgrow2 (by rw [World.size_alloc, HZ.out]; omega) (by simp [Value.ownBlock])
      have hr2 : RdIs w2 g (l.drop n) false := ⟨_, hg2, HT.out.below (by rw [HZ.out]; exact hbb)⟩
      have ho2 : OwnM w2 w.heap.size v2 (l.take n) := OwnM.of_owns (by
        rw [HL.out]
        have h := hown2
        rw [Nat.zero_add, List.nil_append, HL.out] at h
        exact h)
      have HR2 := Lib.hid hr2; have HG2 := Lib.hid hgb2; have HO2 := Lib.hid ho2
      clear hown2 hgrow2 hgb2 hg2 hbb hr2 ho2
      go_wp2
      go_ret
      exact ⟨_, l.drop n, false, rfl, by rw [E.out]; exact HO2.out, by rw [E.out]; rfl, HR2.out, HG2.out⟩

theorem rdTake_small {n : Nat} {l : List Nat} {bad : Bool} (h : ∀ c ∈ l, c < 256) : ∀ c ∈ (rdTake n (rdS l bad)).1, c < 256 := by
  intro c hc
  unfold rdTake rdS at hc
  cases bad
  · simp only [Bool.false_eq_true, if_false] at hc
    split at hc
    · exact h c (List.mem_of_mem_take hc)
    · cases hc
  · cases hc
theorem rdTake_short {n : Nat} {s : Option (List Nat)} : (rdTake n s).1.length ≤ n := by
  unfold rdTake
  cases s with
  | none => simp
  | some l =>
    dsimp only
    split
    · rw [List.length_take]; omega
    · simp
theorem RdIs.small {w : World} {g : Nat} {l : List Nat} {bad : Bool} (h : RdIs w g l bad) : ∀ c ∈ l, c < 256 := let ⟨_, _, h⟩ := h; h.small

set_option maxRecDepth 100000 in
theorem rdNum_any (g n : Nat) (l : List Nat) (bad : Bool) (w : World) (h : RdIs w g l bad) (hn : n ≤ 8) :
    Calls Try.prog 24 #[.pointer (some ⟨g, 0, none⟩), .int .i64 n] w fun e w' => ∃ l' bad', e = .returned (.int .u64 (numOf (rdTake n (rdS l bad)).1 : Nat)) ∧ rdS l' bad' = (rdTake n (rdS l bad)).2 ∧ RdIs w' g l' bad' ∧ w.grownBy w' (some g) := by
  have HH := Lib.hid h
  have H := Lib.hid (rdTake_any g n l bad w h (by omega))
  clear h
  go_enter Try.func24, Try.ntmps24
  go_wp2_with fail
  refine H.out.mono ?_
  rintro e w1 ⟨v1, l1, b1, rfl, ho, hs, hr, hg⟩
  have HN := Lib.hid (num_any v1 _ w1 (ho.bytes (rdTake_small HH.out.small)) (Nat.le_trans rdTake_short hn))
  have HR := Lib.hid hr; have HS := Lib.hid hs; have HG := Lib.hid hg
  clear ho hs hr hg
  go_wp2_with fail
  refine HN.out.mono ?_
  rintro e w2 ⟨rfl, rfl⟩
  generalize hN : numOf (rdTake n (rdS l bad)).1 = N at *
  have HN2 := Lib.hid hN
  clear hN
  go_wp2
  go_ret
  exact ⟨l1, b1, by rw [HN2.out]; rfl, HS.out, HR.out, HG.out⟩

set_option maxRecDepth 100000 in
theorem rdText_any (g : Nat) (l : List Nat) (bad : Bool) (w : World) (h : RdIs w g l bad) :
    Calls Try.prog 25 #[.pointer (some ⟨g, 0, none⟩)] w fun e w' => ∃ v' l' bad', e = .returned v' ∧ OwnM w' w.heap.size v' (rdText (rdS l bad)).1 ∧ rdS l' bad' = (rdText (rdS l bad)).2 ∧ RdIs w' g l' bad' ∧ w.grownBy w' (some g) := by
  have HH := Lib.hid h
  have H := Lib.hid (rdNum_any g 1 l bad w h (by omega))
  have hlt := numOf_lt _ (rdTake_small (n := 1) (bad := bad) h.small)
  have hle : numOf (rdTake 1 (rdS l bad)).1 < 256 := Nat.lt_of_lt_of_le hlt (Nat.le_trans (Nat.pow_le_pow_right (by omega) (rdTake_short (n := 1))) (by decide))
  clear h hlt
  obtain ⟨N, hN⟩ : ∃ N, N = numOf (rdTake 1 (rdS l bad)).1 := ⟨_, rfl⟩
  rw [← hN] at H hle
  have hle' : (N : Int) < 256 := by omega
  have HNE := Lib.hid hN; have HLE := Lib.hid hle
  clear hN hle
  go_enter Try.func25, Try.ntmps25
  go_wp2_with fail
  refine H.out.mono ?_
  rintro e w1 ⟨l1, b1, rfl, hs, hr, hg⟩
  have HT := Lib.hid (rdTake_any g N l1 b1 w1 hr (by have := HLE.out; omega))
  have HS := Lib.hid hs; have HG := Lib.hid hg
  clear hs hr hg
  go_wp2_with fail
  refine HT.out.mono ?_
  rintro e w2 ⟨v2, l2, b2, rfl, ho, hs2, hr2, hg2⟩
  rw [HS.out, HNE.out] at ho hs2
  have HG2 : Hid (w.grownBy w2 (some g)) := ⟨hg2.os.trans HG.out.os, hg2.tape.trans HG.out.tape, hg2.output.trans HG.out.output, Nat.le_trans HG.out.size hg2.size, fun k hk hne => (hg2.block k (Nat.lt_of_lt_of_le hk HG.out.size) hne).trans (HG.out.block k hk hne)⟩
  have HO2 := Lib.hid (OwnM.base' ho HG.out.size); have HS2 := Lib.hid hs2; have HR2 := Lib.hid hr2
  clear ho hs2 hr2 hg2
  go_wp2
  go_ret
  exact ⟨v2, l2, b2, rfl, HO2.out, HS2.out, HR2.out, HG2.out⟩
end Go.Proofs.Ytjjcfflgndclkaa

