/- The document's reader, its bytes where they were handed in. -/
import Derived.Test.YtajfcnaifegonaaMEvC
import Derived.Test.YtajfcnaifegonaaMBkA
import Derived.Test.YtajfcnaifegonaaMNdN
import Derived.Test.YtajfcnaifegonaaMTrW
namespace Go.Proofs.Ytajfcnaifegonaa.Sl.Nd
open Go Go.RowKit Go.By
def RdOf (w0 w : World) (g : Nat) (l : List Nat) (bad : Bool) : Prop := ∃ v, w.heap[g]? = some (.cells #[v, .bool bad] 137 (0, 0)) ∧ Bytes w0 v l
set_option maxRecDepth 100000 in
theorem roTake_any (w0 : World) (g n : Nat) (l : List Nat) (bad : Bool) (w : World) (h : RdOf w0 w g l bad) (h0 : Below w0.heap.size w0 w) (hn : n ≤ 1000000) :
    Calls Try.prog 86 #[.pointer (some ⟨g, 0, none⟩), .int .i64 n] w fun e w' => ∃ v' l' bad', e = .returned v' ∧ w'.ownsRow w.heap.size 5 1 v' (rdTake n (rdS l bad)).1.length (cellsOf (rdTake n (rdS l bad)).1) ∧ rdS l' bad' = (rdTake n (rdS l bad)).2 ∧ RdOf w0 w' g l' bad' ∧ w.grownBy w' (some g) := by
  obtain ⟨v, hg, hv0⟩ := h
  have hv := hv0.below h0
  have hnv := bytes_slice hv
  have hgs : g < w.heap.size := (Array.getElem?_eq_some_iff.1 hg).1
  have hm := hv.short
  unfold maxLen at hm
  obtain ⟨p, cap, hveq⟩ : ∃ p cap, v = .slice p l.length cap := let ⟨p, cap, h, _⟩ := hv.any; ⟨p, cap, h⟩
  subst hveq
  have hc0 : w.cell? ⟨g, 0, none⟩ = some (.slice p l.length cap) := cells_of hg 0
  have hc1 : w.cell? ⟨g, 1, none⟩ = some (.bool bad) := cells_of hg 1
  have hf0 := free_of hg 0
  have hf1 := free_of hg 1
  by_cases hgt : l.length < n
  · have E : Hid (rdTake n (rdS l bad) = ([], none)) := by
      unfold Hid rdTake rdS
      cases bad
      · simp; omega
      · rfl
    have hr : RdOf w0 (w.setCell ⟨g, 1, none⟩ (.bool true)) g l true := ⟨_, (heap_setCell_same w g 1 _ _ _ hg), hv0⟩
    have hgb : w.grownBy (w.setCell ⟨g, 1, none⟩ (.bool true)) (some g) := ⟨rfl, rfl, rfl, by simp [World.setCell], fun k _ hne => heap_setCell_other w _ k _ (fun e => hne (by rw [e]))⟩
    have HR := Lib.hid hr; have HG := Lib.hid hgb
    have hgt' : (l.length : Int) < n := by omega
    clear hr hgb hg hv hv0 hgt
    go_enter Try.func86, Try.ntmps86
    go_wp2
    go_ret
    exact ⟨_, l, true, rfl, by rw [E.out]; exact World.ownsRow_nil _ _ _ _, by rw [E.out]; rfl, HR.out, HG.out⟩
  · cases bad with
    | true =>
      have E : Hid (rdTake n (rdS l true) = ([], none)) := rfl
      have HR : Hid (RdOf w0 w g l true) := ⟨_, hg, hv0⟩
      have hgt' : (n : Int) ≤ l.length := by omega
      clear hg hv hv0 hgt
      go_enter Try.func86, Try.ntmps86
      go_wp2
      go_ret
      exact ⟨_, l, true, rfl, by rw [E.out]; exact World.ownsRow_nil _ _ _ _, by rw [E.out]; rfl, HR.out, World.grownBy.refl _ _⟩
    | false =>
      have hle : n ≤ l.length := by omega
      have E : Hid (rdTake n (rdS l false) = (l.take n, some (l.drop n))) := by
        unfold Hid rdTake rdS
        simp [hle]
      obtain ⟨q, c, hr, hq0⟩ := tail_run hv0 n (n : Int) rfl hle
      have hu := fun w => upto_runI p l.length cap n (n : Int) rfl (by have := hv.room.2; omega) w
      have hW := fun k (_ : k < w.heap.size) (hne : k ≠ g) => heap_setCell_other w ⟨g, 0, none⟩ k (.slice q (l.length - n) c) hne
      have hT := hq0
      have hY := bytes_beside (hv.upto hle) hg hnv hW
      have hgW : (w.setCell ⟨g, 0, none⟩ (.slice q (l.length - n) c)).heap[g]? = some (.cells #[.slice q (l.length - n) c, .bool false] 137 (0, 0)) := heap_setCell_same w g 0 _ _ _ hg
      have hgbW : w.grownBy (w.setCell ⟨g, 0, none⟩ (.slice q (l.length - n) c)) (some g) := ⟨rfl, rfl, rfl, by simp [World.setCell], fun k _ hne => heap_setCell_other w _ k _ (fun e => hne (by rw [e]))⟩
      have hzW : (w.setCell ⟨g, 0, none⟩ (.slice q (l.length - n) c)).heap.size = w.heap.size := by simp [World.setCell]
      have hle' : (n : Int) ≤ l.length := by omega
      have HT := Lib.hid hT; have HY := Lib.hid hY; have HGW := Lib.hid hgW; have HGB := Lib.hid hgbW; have HZ := Lib.hid hzW
      have HL : Hid ((l.take n).length = n) := by unfold Hid; rw [List.length_take]; omega
      have HSM : Hid (∀ c ∈ l.take n, c < 256) := fun c hc => hv.small c (List.mem_of_mem_take hc)
      obtain ⟨Ws, hWs⟩ : ∃ Ws, Ws = w.setCell ⟨g, 0, none⟩ (.slice q (l.length - n) c) := ⟨_, rfl⟩
      have hown0 : ((w.setCell ⟨g, 0, none⟩ (.slice q (l.length - n) c)).alloc (.cells #[] 5)).ownsRow w.heap.size 5 1 (.slice (some ⟨w.heap.size, 0, none⟩) 0 0) 0 [] := by
        have := World.ownsRow_made (base := w.heap.size) (size := 1) (e := 5) (w.setCell ⟨g, 0, none⟩ (.slice q (l.length - n) c)) #[] 0 (by rw [hzW]; exact Nat.le_refl _) (by decide) rfl
        rw [hzW] at this
        exact this
      have HO0 := Lib.hid hown0
      have hY' := hY.below ((Below.refl _ _).alloc (Nat.le_refl _) (.cells #[] 5))
      have HY' := Lib.hid hY'
      clear hT hY hgW hgbW hzW hW hq0 hv hv0 hg hnv hgt hle hown0 hWs Ws hY'
      go_enter Try.func86, Try.ntmps86
      go_wp2_with (at_builtin; go_loud (refine wpList_append_bytes rfl (.tmp 35) (.tmp 36) byT rfl w.heap.size (.slice (some ⟨w.heap.size, 0, none⟩) 0 0) 0 [] rfl HO0.out (.slice p n cap) (l.take n) rfl HY'.out (by rw [HL.out]; omega) (by rw [World.size_alloc, HZ.out]; omega) ?_); intro v2 w2 hown2 hgrow2 _)
      have hgb2 : w.grownBy w2 (some g) := ⟨hgrow2.os, hgrow2.tape, hgrow2.output, by have := hgrow2.size; rw [World.size_alloc, HZ.out] at this; omega, fun k hk hne => by
        rw [hgrow2.block k (by rw [World.size_alloc, HZ.out]; omega) (by simp only [Value.ownBlock]; intro h; have := Option.some.inj h; omega), Below.heap_alloc _ _ _ (by rw [HZ.out]; exact hk)]
        exact HGB.out.block k hk hne⟩
      have hg2 : w2.heap[g]? = some (.cells #[.slice q (l.length - n) c, .bool false] 137 (0, 0)) := by
        rw [hgrow2.block g (by rw [World.size_alloc, HZ.out]; omega) (by simp only [Value.ownBlock]; intro h; have := Option.some.inj h; omega), Below.heap_alloc _ _ _ (by rw [HZ.out]; exact hgs)]
        exact HGW.out
      have hbb : Below w.heap.size (w.setCell ⟨g, 0, none⟩ (.slice q (l.length - n) c)) w2 := ((Below.refl _ _).alloc (by rw [HZ.out]; omega) _).grown hgrow2 (by rw [World.size_alloc, HZ.out]; omega) (by simp [Value.ownBlock])
      have hr2 : RdOf w0 w2 g (l.drop n) false := ⟨_, hg2, HT.out⟩
      have ho2 : w2.ownsRow w.heap.size 5 1 v2 (l.take n).length (cellsOf (l.take n)) := by
        rw [HL.out]
        have h := hown2
        rw [Nat.zero_add, List.nil_append, HL.out] at h
        exact h
      have HR2 := Lib.hid hr2; have HG2 := Lib.hid hgb2; have HO2 := Lib.hid ho2
      clear hown2 hgrow2 hgb2 hg2 hbb hr2 ho2
      go_wp2
      go_ret
      exact ⟨_, l.drop n, false, rfl, by rw [E.out]; exact HO2.out, by rw [E.out]; rfl, HR2.out, HG2.out⟩
theorem RdOf.small {w0 w : World} {g : Nat} {l : List Nat} {bad : Bool} (h : RdOf w0 w g l bad) : ∀ c ∈ l, c < 256 := let ⟨_, _, h⟩ := h; h.small
set_option maxRecDepth 100000 in
theorem roNum_any (w0 : World) (g n : Nat) (l : List Nat) (bad : Bool) (w : World) (h : RdOf w0 w g l bad) (h0 : Below w0.heap.size w0 w) (_hb : w0.heap.size ≤ g) (hn : n ≤ 8) :
    Calls Try.prog 71 #[.pointer (some ⟨g, 0, none⟩), .int .i64 n] w fun e w' => ∃ l' bad', e = .returned (.int .u64 (numOf (rdTake n (rdS l bad)).1 : Nat)) ∧ rdS l' bad' = (rdTake n (rdS l bad)).2 ∧ RdOf w0 w' g l' bad' ∧ w.grownBy w' (some g) := by
  have HH := Lib.hid h
  have H := Lib.hid (roTake_any w0 g n l bad w h h0 (by omega))
  clear h
  go_enter Try.func71, Try.ntmps71
  go_wp2_with fail
  refine H.out.mono ?_
  rintro e w1 ⟨v1, l1, b1, rfl, ho, hs, hr, hg⟩
  have HN := Lib.hid (num_any v1 _ w1 (Bytes.of_owns ho (rdTake_small HH.out.small) (Nat.le_trans rdTake_short (by unfold maxLen; omega))) (Nat.le_trans rdTake_short hn))
  have HR := Lib.hid hr; have HS := Lib.hid hs; have HG := Lib.hid hg
  clear ho hs hr hg
  go_wp2_with fail
  refine HN.out.mono ?_
  rintro e w2 ⟨rfl, rfl⟩
  generalize hN : numOf (rdTake n (rdS l bad)).1 = N at *
  have HN2 := Lib.hid hN
  clear hN
  go_wp2
  go_ret
  exact ⟨l1, b1, by rw [HN2.out]; rfl, HS.out, HR.out, HG.out⟩
set_option maxRecDepth 100000 in
theorem roText_any (w0 : World) (g : Nat) (l : List Nat) (bad : Bool) (w : World) (h : RdOf w0 w g l bad) (h0 : Below w0.heap.size w0 w) (hb : w0.heap.size ≤ g) :
    Calls Try.prog 72 #[.pointer (some ⟨g, 0, none⟩)] w fun e w' => ∃ v' l' bad', e = .returned v' ∧ w'.ownsRow w.heap.size 5 1 v' (rdText (rdS l bad)).1.length (cellsOf (rdText (rdS l bad)).1) ∧ rdS l' bad' = (rdText (rdS l bad)).2 ∧ RdOf w0 w' g l' bad' ∧ w.grownBy w' (some g) := by
  have HH := Lib.hid h; have HB0 := Lib.hid h0; have HBG := Lib.hid hb
  have H := Lib.hid (roNum_any w0 g 1 l bad w h h0 hb (by omega))
  have hlt := numOf_lt _ (rdTake_small (n := 1) (bad := bad) h.small)
  have hle : numOf (rdTake 1 (rdS l bad)).1 < 256 := Nat.lt_of_lt_of_le hlt (Nat.le_trans (Nat.pow_le_pow_right (by omega) (rdTake_short (n := 1))) (by decide))
  clear h hlt
  obtain ⟨N, hN⟩ : ∃ N, N = numOf (rdTake 1 (rdS l bad)).1 := ⟨_, rfl⟩
  rw [← hN] at H hle
  have hle' : (N : Int) < 256 := by omega
  have HNE := Lib.hid hN; have HLE := Lib.hid hle
  clear hN hle
  go_enter Try.func72, Try.ntmps72
  go_wp2_with fail
  refine H.out.mono ?_
  rintro e w1 ⟨l1, b1, rfl, hs, hr, hg⟩
  have HT := Lib.hid (roTake_any w0 g N l1 b1 w1 hr (HB0.out.grown hg HB0.out.size (fun j hj => by obtain rfl := Option.some.inj hj; exact HBG.out)) (by have := HLE.out; omega))
  have HS := Lib.hid hs; have HG := Lib.hid hg
  clear hs hr hg
  go_wp2_with fail
  refine HT.out.mono ?_
  rintro e w2 ⟨v2, l2, b2, rfl, ho, hs2, hr2, hg2⟩
  rw [HS.out, HNE.out] at ho hs2
  have HG2 : Hid (w.grownBy w2 (some g)) := ⟨hg2.os.trans HG.out.os, hg2.tape.trans HG.out.tape, hg2.output.trans HG.out.output, Nat.le_trans HG.out.size hg2.size, fun k hk hne => (hg2.block k (Nat.lt_of_lt_of_le hk HG.out.size) hne).trans (HG.out.block k hk hne)⟩
  have HO2 := Lib.hid (owns_base ho HG.out.size); have HS2 := Lib.hid hs2; have HR2 := Lib.hid hr2
  clear ho hs2 hr2 hg2
  go_wp2
  go_ret
  exact ⟨v2, l2, b2, rfl, HO2.out, HS2.out, HR2.out, HG2.out⟩
end Go.Proofs.Ytajfcnaifegonaa.Sl.Nd
/- The document's reader of nodes: what has been read lies beside it. -/
namespace Go.Proofs.Ytajfcnaifegonaa.Sl.Nd
open Go Go.RowKit Go.By
theorem ty_rd : 5 ≠ 137 ∧ 34 ≠ 137 ∧ 31 ≠ 137 ∧ 39 ≠ 137 ∧ 93 ≠ 137 := by decide
theorem ty_cr : 5 ≠ 39 ∧ 31 ≠ 39 := by decide
theorem ty_nd : 5 ≠ 93 ∧ 34 ≠ 93 ∧ 31 ≠ 93 ∧ 39 ≠ 93 := by decide
section
variable {w w' : World} {B b : Nat} {v : Value} {c : Array Value} {T : TypeId} {fr : Nat × Nat}
theorem KyRow.onlyT {ks : List (List Nat)} (h : KyRow w B v ks) (hb : w.heap[b]? = some (.cells c T fr)) (hT : 5 ≠ T ∧ 31 ≠ T) (ho : Only b w w') : KyRow w' B v ks := by
  obtain ⟨cs, h1, h2, h3⟩ := h
  exact ⟨cs, h1, owns_only h2 hb hT.2 ho, fun j hj hj' => (h3 j hj hj').onlyT hb hT.1 ho⟩
theorem KdRow.onlyT {kids : List NKd} (h : KdRow w B v kids) (hb : w.heap[b]? = some (.cells c T fr)) (hT : 39 ≠ T) (ho : Only b w w') : KdRow w' B v kids := ⟨owns_only h.1 hb hT ho, h.2⟩
theorem Txt.base {B' : Nat} {l : List Nat} (h : Txt w B v l) (hb : B' ≤ B) : Txt w B' v l := ⟨owns_base h.1 hb, h.2⟩
end
theorem Only.of_grown {w w' : World} {g : Nat} (h : w.grownBy w' (some g)) : Only g w w' := ⟨h.os, h.tape, h.output, h.size, fun k hk hne => h.block k hk (fun e => hne (Option.some.inj e))⟩
structure RdN (w0 : World) (A g nb : Nat) (w : World) (cs : Array Value) (s : Option (List Nat)) : Prop where
  rd : ∃ l bad, RdOf w0 w g l bad ∧ s = rdS l bad
  nd : w.heap[nb]? = some (.cells cs 93 (0, 0))
  below : Below w0.heap.size w0 w
  hg : w0.heap.size ≤ g
  hn : w0.heap.size ≤ nb
  res : w.heap[A]? = some (.cells #[.bool false, .slice none 0 0, .slice none 0 0, .slice none 0 0] 93 (0, 0))
  hA : w0.heap.size ≤ A
  ne1 : A ≠ nb
section
variable {w0 w w' : World} {A g nb : Nat} {cs : Array Value} {s : Option (List Nat)}
theorem RdN.at_ (h : RdN w0 A g nb w cs s) : ∃ v, w.heap[g]? = some (.cells #[v, .bool s.isNone] 137 (0, 0)) ∧ ∀ l, s = some l → Bytes w0 v l := by
  obtain ⟨l, bad, ⟨v, h1, h2⟩, rfl⟩ := h.rd
  refine ⟨v, ?_, fun l' hl => ?_⟩
  · rw [h1]; cases bad <;> rfl
  · cases bad with
    | true => cases hl
    | false => obtain rfl : l = l' := Option.some.inj hl; exact h2
theorem RdN.ne (h : RdN w0 A g nb w cs s) : nb ≠ g := by
  obtain ⟨v, h1, -⟩ := h.at_
  rintro rfl
  rw [h.nd] at h1
  simp only [Option.some.injEq, Obj.cells.injEq] at h1
  exact ty_rd.2.2.2.2 h1.2.1
theorem RdN.ne2 (h : RdN w0 A g nb w cs s) : A ≠ g := by
  obtain ⟨v, h1, -⟩ := h.at_
  rintro rfl
  rw [h.res] at h1
  simp only [Option.some.injEq, Obj.cells.injEq] at h1
  exact ty_rd.2.2.2.2 h1.2.1
theorem RdN.ltA (h : RdN w0 A g nb w cs s) : A < w.heap.size := (Array.getElem?_eq_some_iff.1 h.res).1
theorem RdN.ltg (h : RdN w0 A g nb w cs s) : g < w.heap.size := let ⟨_, h1, _⟩ := h.at_; (Array.getElem?_eq_some_iff.1 h1).1
theorem RdN.ltn (h : RdN w0 A g nb w cs s) : nb < w.heap.size := (Array.getElem?_eq_some_iff.1 h.nd).1
theorem RdN.size (h : RdN w0 A g nb w cs s) : w0.heap.size ≤ w.heap.size := Nat.le_of_lt (Nat.lt_of_le_of_lt h.hg h.ltg)
theorem RdN.turned (h : RdN w0 A g nb w cs s) (ho : Only g w w') {s' : Option (List Nat)} (hr : ∃ l bad, RdOf w0 w' g l bad ∧ s' = rdS l bad) : RdN w0 A g nb w' cs s' :=
  ⟨hr, (ho.block nb h.ltn h.ne).trans h.nd, Below.only h.below h.hg h.size ho, h.hg, h.hn, (ho.block A h.ltA h.ne2).trans h.res, h.hA, h.ne1⟩
theorem RdN.text (h : RdN w0 A g nb w cs s) : Calls Try.prog 72 #[.pointer (some ⟨g, 0, none⟩)] w fun e w' => ∃ v', e = .returned v' ∧ Txt w' w0.heap.size v' (rdText s).1 ∧ RdN w0 A g nb w' cs (rdText s).2 ∧ Only g w w' := by
  obtain ⟨l, bad, hr, rfl⟩ := h.rd
  refine (roText_any w0 g l bad w hr h.below h.hg).mono ?_
  rintro e w' ⟨v', l', bad', rfl, ho, hs, hr', hg⟩
  have hO := Only.of_grown hg
  have hsm : ∀ c ∈ (rdText (rdS l bad)).1, c < 256 := by
    unfold rdText
    cases bad with
    | true => intro c hc; cases hc
    | false =>
      cases h2 : (rdTake 1 (rdS l false)).2 with
      | none => intro c hc; cases hc
      | some r =>
        have hr2 : ∀ c ∈ r, c < 256 := by
          unfold rdTake rdS at h2
          simp only [Bool.false_eq_true, if_false] at h2
          split at h2
          · obtain rfl := Option.some.inj h2
            exact fun c hc => hr.small c (List.mem_of_mem_drop hc)
          · cases h2
        exact rdTake_small (bad := false) hr2
  have hsh : (rdText (rdS l bad)).1.length ≤ maxLen := by
    have h1 : numOf (rdTake 1 (rdS l bad)).1 < 256 := by
      have hlt := numOf_lt _ (rdTake_small (n := 1) (bad := bad) hr.small)
      exact Nat.lt_of_lt_of_le hlt (Nat.le_trans (Nat.pow_le_pow_right (by omega) (rdTake_short (n := 1))) (by decide))
    have h2 : (rdText (rdS l bad)).1.length ≤ numOf (rdTake 1 (rdS l bad)).1 := rdTake_short
    unfold maxLen; omega
  exact ⟨v', rfl, ⟨owns_base ho h.size, hsm, hsh⟩, h.turned hO ⟨l', bad', hr', hs.symm⟩, hO⟩
theorem RdN.num (h : RdN w0 A g nb w cs s) (n : Nat) (hn : n ≤ 8) : Calls Try.prog 71 #[.pointer (some ⟨g, 0, none⟩), .int .i64 n] w fun e w' => e = .returned (.int .u64 (numOf (rdTake n s).1 : Nat)) ∧ RdN w0 A g nb w' cs (rdTake n s).2 ∧ Only g w w' := by
  obtain ⟨l, bad, hr, rfl⟩ := h.rd
  refine (roNum_any w0 g n l bad w hr h.below h.hg hn).mono ?_
  rintro e w' ⟨l', bad', rfl, hs, hr', hg⟩
  have hO := Only.of_grown hg
  exact ⟨rfl, h.turned hO ⟨l', bad', hr', hs.symm⟩, hO⟩
theorem RdN.set (h : RdN w0 A g nb w cs s) (i : Nat) (v : Value) : RdN w0 A g nb (w.setCell ⟨nb, i, none⟩ v) (cs.setIfInBounds i v) s := by
  obtain ⟨l, bad, ⟨u, h1, h2⟩, rfl⟩ := h.rd
  exact ⟨⟨l, bad, ⟨u, (heap_setCell_other w ⟨nb, i, none⟩ g v (Ne.symm h.ne)).trans h1, h2⟩, rfl⟩, set_heap h.nd i v, h.below.setCell h.hn _, h.hg, h.hn, (heap_setCell_other w ⟨nb, i, none⟩ A v h.ne1).trans h.res, h.hA, h.ne1⟩
theorem RdN.new (h : RdN w0 A g nb w cs s) (hb : Below w.heap.size w w') : RdN w0 A g nb w' cs s := by
  obtain ⟨l, bad, ⟨u, h1, h2⟩, rfl⟩ := h.rd
  exact ⟨⟨l, bad, ⟨u, (hb.block _ (Array.getElem?_eq_some_iff.1 h1).1).trans h1, h2⟩, rfl⟩, (hb.block _ h.ltn).trans h.nd, h.below.trans (hb.mono h.size), h.hg, h.hn, (hb.block _ h.ltA).trans h.res, h.hA, h.ne1⟩
theorem RdN.grow (h : RdN w0 A g nb w cs s) {e : TypeId} {sz n : Nat} {v v' : Value} {xs : List Value} (ho : w.ownsRow w0.heap.size e sz v n xs) (h1 : e ≠ 137) (h2 : e ≠ 93) (hG : Grows w w' v v') : RdN w0 A g nb w' cs s := by
  obtain ⟨l, bad, ⟨u, hu, hy⟩, rfl⟩ := h.rd
  exact ⟨⟨l, bad, ⟨u, (hG.block h.ltg (owns_ne ho hu h1)).trans hu, hy⟩, rfl⟩, (hG.block h.ltn (owns_ne ho h.nd h2)).trans h.nd, hG.below h.below h.size (fun k hk => (ho.lt k hk).1), h.hg, h.hn, (hG.block h.ltA (owns_ne ho h.res h2)).trans h.res, h.hA, h.ne1⟩
theorem it_push {iv a c : Value} {its : List NIt} {it : NIt} (h : RdN w0 A g nb w #[.bool true, iv, .slice none 0 0, .slice none 0 0] s) (hi : ItRow w w0.heap.size iv its) (hn : its.length ≤ 1000000) (ha : Txt w w0.heap.size a it.k) (hc : Txt w w0.heap.size c it.v) :
    ∃ p' c' w', (Builtin.append_ #[30, 30] 30 #[iv, .slice (some ⟨w.heap.size, 0, none⟩) 1 1]).run Try.prog (w.alloc (.cells #[a, c] 34)) = .ok (.slice p' (its.length + 1) c') w' ∧
      w'.heap[nb]? = some (.cells #[.bool true, iv, .slice none 0 0, .slice none 0 0] 93 (0, 0)) ∧
      RdN w0 A g nb (w'.setCell ⟨nb, 1, none⟩ (.slice p' (its.length + 1) c')) #[.bool true, .slice p' (its.length + 1) c', .slice none 0 0, .slice none 0 0] s ∧ ItRow (w'.setCell ⟨nb, 1, none⟩ (.slice p' (its.length + 1) c')) w0.heap.size (.slice p' (its.length + 1) c') (its ++ [it]) := by
  obtain ⟨v', w', hrun, hrow, hG⟩ := hi.push hn h.size ha hc
  obtain ⟨_, _, ho, _⟩ := hi
  have h' := h.grow ho ty_rd.2.1 ty_nd.2.1 hG
  obtain ⟨p', c', rfl, -⟩ := hrow.at_
  rw [List.length_append] at hrun hrow
  exact ⟨p', c', w', hrun, h'.nd, h'.set 1 _, hrow.onlyT h'.nd ⟨ty_nd.1, ty_nd.2.1⟩ (Only.set nb 1 w' _)⟩
theorem ky_push {kv dv a : Value} {ks : List (List Nat)} {kids : List NKd} {k : List Nat} (h : RdN w0 A g nb w #[.bool false, .slice none 0 0, kv, dv] s) (hi : KyRow w w0.heap.size kv ks) (hd : KdRow w w0.heap.size dv kids) (hn : ks.length ≤ 1000000) (ha : Txt w w0.heap.size a k) :
    ∃ p' c' w', (Builtin.append_ #[78, 78] 78 #[kv, .slice (some ⟨w.heap.size, 0, none⟩) 1 1]).run Try.prog (w.alloc (.cells #[a] 31)) = .ok (.slice p' (ks.length + 1) c') w' ∧
      w'.heap[nb]? = some (.cells #[.bool false, .slice none 0 0, kv, dv] 93 (0, 0)) ∧
      RdN w0 A g nb (w'.setCell ⟨nb, 2, none⟩ (.slice p' (ks.length + 1) c')) #[.bool false, .slice none 0 0, .slice p' (ks.length + 1) c', dv] s ∧ KyRow (w'.setCell ⟨nb, 2, none⟩ (.slice p' (ks.length + 1) c')) w0.heap.size (.slice p' (ks.length + 1) c') (ks ++ [k]) ∧ KdRow (w'.setCell ⟨nb, 2, none⟩ (.slice p' (ks.length + 1) c')) w0.heap.size dv kids := by
  obtain ⟨v', w', hrun, hrow, hG⟩ := hi.push hn h.size ha
  obtain ⟨_, _, ho, _⟩ := hi
  have h' := h.grow ho ty_rd.2.2.1 ty_nd.2.2.1 hG
  have hdd : KdRow w' w0.heap.size dv kids := ⟨owns_grows hd.1 ho (Ne.symm ty_cr.2) hG, hd.2⟩
  obtain ⟨p', c', rfl, -⟩ := hrow.at_
  rw [List.length_append] at hrun hrow
  exact ⟨p', c', w', hrun, h'.nd, h'.set 2 _, hrow.onlyT h'.nd ⟨ty_nd.1, ty_nd.2.2.1⟩ (Only.set nb 2 w' _), hdd.onlyT h'.nd ty_nd.2.2.2 (Only.set nb 2 w' _)⟩
theorem kd_push {kv dv : Value} {ks : List (List Nat)} {kids : List NKd} {d : NKd} (h : RdN w0 A g nb w #[.bool false, .slice none 0 0, kv, dv] s) (hi : KyRow w w0.heap.size kv ks) (hd : KdRow w w0.heap.size dv kids) (hn : kids.length ≤ 1000000) (hq : d.off ≤ 9223372036854775807 ∧ d.ct < 18446744073709551616) :
    ∃ p' c' w', (Builtin.append_ #[79, 79] 79 #[dv, .slice (some ⟨w.heap.size, 0, none⟩) 1 1]).run Try.prog (w.alloc (.cells #[.int .i64 d.off, .int .u64 (d.ct : Nat)] 39)) = .ok (.slice p' (kids.length + 1) c') w' ∧
      w'.heap[nb]? = some (.cells #[.bool false, .slice none 0 0, kv, dv] 93 (0, 0)) ∧
      RdN w0 A g nb (w'.setCell ⟨nb, 3, none⟩ (.slice p' (kids.length + 1) c')) #[.bool false, .slice none 0 0, kv, .slice p' (kids.length + 1) c'] s ∧ KyRow (w'.setCell ⟨nb, 3, none⟩ (.slice p' (kids.length + 1) c')) w0.heap.size kv ks ∧ KdRow (w'.setCell ⟨nb, 3, none⟩ (.slice p' (kids.length + 1) c')) w0.heap.size (.slice p' (kids.length + 1) c') (kids ++ [d]) := by
  obtain ⟨v', w', hrun, hrow, hG⟩ := hd.push hn h.size hq
  have ho := hd.1
  have h' := h.grow ho ty_rd.2.2.2.1 ty_nd.2.2.2 hG
  have hkk : KyRow w' w0.heap.size kv ks := by
    obtain ⟨cs, h1, h2, h3⟩ := hi
    exact ⟨cs, h1, owns_grows h2 ho ty_cr.2 hG, fun j hj hj' => ⟨owns_grows (h3 j hj hj').1 ho ty_cr.1 hG, (h3 j hj hj').2⟩⟩
  obtain ⟨p', c', rfl, -⟩ := hrow.at_
  rw [List.length_append] at hrun hrow
  exact ⟨p', c', w', hrun, h'.nd, h'.set 3 _, hkk.onlyT h'.nd ⟨ty_nd.1, ty_nd.2.2.1⟩ (Only.set nb 3 w' _), hrow.onlyT h'.nd ty_nd.2.2.2 (Only.set nb 3 w' _)⟩
end
end Go.Proofs.Ytajfcnaifegonaa.Sl.Nd
