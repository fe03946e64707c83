/- Trees in a program: the law's rows of keys. -/
import Derived.Test.YtdbgihpognfhdaaGreatMTLk
import Derived.Test.YtdbgihpognfhdaaGreatMTLb
import Derived.Test.YtdbgihpognfhdaaGreatMDcT
import Derived.Test.YtdbgihpognfhdaaGreatMTrV
import Derived.Deep.RegionHeld3
import Derived.Deep.Cut
namespace Go.By
open Go Go.RowKit
theorem docAll_good {K : List Nat} (hK : ∀ c ∈ K, c < 256) {off : Int} {ct : Nat} {l : List NIt} {h : Nat} (hd : docAll K off ct = some (l, h)) : l.Pairwise BelowIt ∧ l.length ≤ K.length := by
  unfold docAll at hd
  split at hd
  · cases hd; exact ⟨.nil, Nat.zero_le _⟩
  · have g := docT_good hK 40 off ct true l h hd
    exact ⟨g.rise, has_few g.rise g.has⟩
theorem get_docAll {K : List Nat} (hK : ∀ c ∈ K, c < 256) (hs : K.length ≤ 1048576) {off : Int} {ct : Nat} {l : List NIt} {h : Nat} (hd : docAll K off ct = some (l, h)) (key : List Nat) : getAll K off ct key = some (findV l key) := by
  unfold docAll at hd
  unfold getAll
  split at hd
  · rename_i h0
    cases hd
    rw [if_pos h0]
    rfl
  · rename_i h0
    rw [if_neg h0]
    have hc := chk_doc hK hs off ct
    rw [hd] at hc
    obtain ⟨l', hl, -⟩ := (chkT_iff hK 22 off ct true [] [] h (fun _ => rfl)).1 hc
    have hg := docT_good hK 22 off ct true l' h hl
    have h2 := docT_fuel hK 22 off ct true l' h 40 hl (by have := hg.high; omega)
    rw [hd] at h2
    cases h2
    exact getT_doc hK key 22 off ct true l h hl
end Go.By
namespace Go.Proofs.YtdbgihpognfhdaaGreat.Sl.Nd
open Go Go.RowKit Go.By
theorem ItRow.item {w : World} {B : Nat} {p : Option Addr} {c : Nat} {its : List NIt} (h : ItRow w B (.slice p its.length c) its) {j : Nat} (hj : j < its.length) : ∃ g a b, p = some ⟨g, 0, none⟩ ∧ B ≤ g ∧ g < w.heap.size ∧ w.cell? ⟨g, j * 2, none⟩ = some a ∧ w.cell? ⟨g, j * 2 + 1, none⟩ = some b ∧ Txt w B a its[j].k ∧ Txt w B b its[j].v := by
  obtain ⟨cs, h1, h2, h3⟩ := h
  obtain ⟨p', c', e, q1, q2, q3⟩ := owns_at h2 (by decide)
  simp only [Value.slice.injEq] at e
  obtain ⟨rfl, -, rfl⟩ := e
  have hj' : j < cs.length := by omega
  have f := fun i (hi : i < 2) => flat_two (f := itCells) (fun _ => rfl) hj' hi
  obtain ⟨g, rfl, c0⟩ := q3 (j * 2 + 0) _ ((f 0 (by decide)).trans (by rfl))
  obtain ⟨g', e', c1⟩ := q3 (j * 2 + 1) _ ((f 1 (by decide)).trans (by rfl))
  cases e'
  simp only [Nat.zero_add, Nat.add_zero] at c0 c1
  have hlt := h2.lt g rfl
  exact ⟨g, _, _, rfl, hlt.1, hlt.2, c0, c1, (h3 j hj hj').1, (h3 j hj hj').2⟩
theorem ItRow.steps {own : Own} {w w' : World} {B : Nat} {v : Value} {its : List NIt} (h : ItRow w B v its) (hs : Steps own own w w') (hn : ∀ k, B ≤ k → own k = none) : ItRow w' B v its := by
  have st : ∀ {s : Nat} {e : TypeId} {v : Value} {n : Nat} {xs : List Value}, w.ownsRow B e s v n xs → w'.ownsRow B e s v n xs := fun h => owns_stay h (fun k hk => hs.block k (h.lt k hk).2 (.inl (hn k (h.lt k hk).1)))
  obtain ⟨cs, h1, h2, h3⟩ := h
  exact ⟨cs, h1, st h2, fun j hj hj' => ⟨⟨st (h3 j hj hj').1.1, (h3 j hj hj').1.2⟩, ⟨st (h3 j hj hj').2.1, (h3 j hj hj').2.2⟩⟩⟩
def KfRow (own : Own) (w0 w : World) (B : Nat) (v : Value) (ks : List (List Nat)) : Prop :=
  ∃ cs : List Value, cs.length = ks.length ∧ w.ownsRow B 26 1 v ks.length cs ∧ ∀ j (h : j < ks.length) (h' : j < cs.length), ∀ W', Steps own own w0 W' → Bytes W' cs[j] ks[j]
theorem KfRow.push {own : Own} {w0 w : World} {B : Nat} {v a : Value} {ks : List (List Nat)} {k : List Nat} (h : KfRow own w0 w B v ks) (hn : ks.length ≤ 2000000) (hB : B ≤ w.heap.size) (ha : ∀ W', Steps own own w0 W' → Bytes W' a k) :
    ∃ p' c' w', (Builtin.append_ #[36, 36] 36 #[v, .slice (some ⟨w.heap.size, 0, none⟩) 1 1]).run Tryz.prog (w.alloc (.cells #[a] 26)) = .ok (.slice p' (ks.length + 1) c') w' ∧ KfRow own w0 w' B (.slice p' (ks.length + 1) c') (ks ++ [k]) ∧ Grows w w' v (.slice p' (ks.length + 1) c') := by
  obtain ⟨cs, h1, h2, h3⟩ := h
  obtain ⟨i, hi, hz, hs, hby⟩ := info_row
  obtain ⟨pa, ca, rfl, -⟩ := (ha w0 (Steps.refl _ _)).any
  obtain ⟨v', w', hr, ho, hg⟩ := run_append_grows (P := Tryz.prog) (w := w.alloc (.cells #[.slice pa k.length ca] 26)) 36 (t := 36) (e := 26) (by kernel_rfl) hi hz hs hby rfl (by decide) B v ks.length cs (h2.alloc _) w.heap.size 0 1 1 [.slice pa k.length ca] rfl (by
    intro j u hu
    rw [Nat.zero_add]
    have := cells_of (heap_alloc_new w (.cells #[.slice pa k.length ca] 26)) j
    rw [this]
    simpa using hu) (by simp [Value.oneCell']) (by unfold maxLen; omega) (by omega) (by simp; omega)
  have hga := (Grows.alloc w v (.cells #[.slice pa k.length ca] 26)).trans hg
  obtain ⟨p', c', rfl, -⟩ := owns_at ho (by decide)
  refine ⟨p', c', w', hr, ⟨cs ++ [.slice pa k.length ca], by simp [h1], by simpa using ho, fun j hj hj' => ?_⟩, hga⟩
  by_cases hlt : j < ks.length
  · rw [List.getElem_append_left hlt, List.getElem_append_left (by omega)]
    exact h3 j hlt (by omega)
  · obtain rfl : j = ks.length := by simp at hj; omega
    rw [List.getElem_append_right (Nat.le_refl _), List.getElem_append_right (by omega)]
    simp only [h1, Nat.sub_self, List.getElem_singleton]
    exact ha
theorem KfRow.item {own : Own} {w0 w : World} {B : Nat} {p : Option Addr} {c n : Nat} {ks : List (List Nat)} (h : KfRow own w0 w B (.slice p n c) ks) {j : Nat} (hj : j < ks.length) : ∃ g a, p = some ⟨g, 0, none⟩ ∧ B ≤ g ∧ g < w.heap.size ∧ w.cell? ⟨g, j, none⟩ = some a ∧ ∀ W', Steps own own w0 W' → Bytes W' a ks[j] := by
  obtain ⟨cs, h1, h2, h3⟩ := h
  obtain ⟨p', c', e, q1, q2, q3⟩ := owns_at h2 (by decide)
  simp only [Value.slice.injEq] at e
  obtain ⟨rfl, -, rfl⟩ := e
  have hj' : j < cs.length := by omega
  obtain ⟨g, rfl, c0⟩ := q3 j cs[j] (List.getElem?_eq_getElem hj')
  rw [Nat.zero_add] at c0
  have hlt := h2.lt g rfl
  exact ⟨g, _, rfl, hlt.1, hlt.2, c0, h3 j hj hj'⟩
def L4 (own : Own) (w4 : World) (key : List Nat) (l : List NIt) (v i : Value) (wr : World) : Prop :=
  ∃ j : Nat, j ≤ l.length ∧ i = .int .i64 j ∧ KfRow own w4 wr w4.heap.size v (key :: (l.take j).map (·.k)) ∧ Below w4.heap.size w4 wr
def L5 (F : FS) (W : World) (g a o0 : Nat) (own : Own) (wb : World) (N : Nat) (i : Value) (wr : World) : Prop :=
  ∃ k o : Nat, k ≤ N ∧ i = .int .i64 k ∧ Tf F W g a o own wr ∧ Steps own own wb wr ∧ o ≤ o0 + k * 30
end Go.Proofs.YtdbgihpognfhdaaGreat.Sl.Nd
/- Trees in a program: the law: the nodes are laid. -/
namespace Go.Proofs.YtdbgihpognfhdaaGreat.Sl.Nd
open Go Go.RowKit Go.By
theorem chk_docAll {K : List Nat} (hK : ∀ c ∈ K, c < 256) (hs : K.length ≤ 1048576) (off : Int) (ct : Nat) : chkAll K off ct = (docAll K off ct).map (·.2) := by
  unfold chkAll docAll
  by_cases h : off = 0 ∧ ct = 0
  · rw [if_pos h, if_pos h]; rfl
  · rw [if_neg h, if_neg h, chk_doc hK hs]
def L3 (F : FS) (W : World) (g a o0 : Nat) (own : Own) (wb : World) (RL : Nat) (i : Value) (wr : World) : Prop :=
  ∃ k o : Nat, k ≤ RL ∧ i = .int .i64 k ∧ Tf F W g a o own wr ∧ Steps own own wb wr ∧ o ≤ o0 + k * 2251799813685248
set_option maxRecDepth 100000 in
set_option maxHeartbeats 40000000 in
theorem treeAll_any (HBG : ∀ w, Calls Tryz.prog 8 #[] w fun e w' => e = .returned (.bool true) ∧ Below w.heap.size w w')
    {w : World} {pn : Option Addr} {cn : Nat} {nodes : List Nd} (hn : RowAt KNd w pn cn nodes) (off : Int) (ct : Nat) (hoff : off ≤ 9223372036854775807) (hct : ct < 18446744073709551616) {kv : Value} {key : List Nat} (hk : Bytes w kv key) (hsz : ∀ n ∈ nodes, n.kids.length ≤ 8796093022000 ∧ n.ks.length ≤ 8796093022000) :
    Calls Tryz.prog 3 #[.slice pn nodes.length cn, .agg #[.int .i64 off, .int .u64 (ct : Nat)], kv] w fun e w' => e = .returned (.bool true) ∧ Below w.heap.size w w' := by
  obtain ⟨W0, hW0⟩ : ∃ W0, W0 = w.alloc (.cells #[.int .i64 off, .int .u64 (ct : Nat)] 25) := ⟨_, rfl⟩
  have hb0 : Below w.heap.size w W0 := by rw [hW0]; exact (Below.refl _ _).alloc (Nat.le_refl _) _
  have g0 : W0.heap[w.heap.size]? = some (.cells #[.int .i64 off, .int .u64 (ct : Nat)] 25 (0, 0)) := by rw [hW0]; exact heap_alloc_new w _
  have HW0 := Lib.hid hW0; have HB0 := Lib.hid hb0; have HG0 := Lib.hid g0
  have HN := Lib.hid hn; have HKY := Lib.hid hk; have HSZ := Lib.hid hsz
  have hNl := hn.le; have hNm := hn.most
  obtain ⟨kp, kc, rfl, -⟩ := hk.any
  obtain ⟨NN, hNN⟩ : ∃ x, x = nodes.length := ⟨_, rfl⟩
  have HNN := Lib.hid hNN
  have hN9 : (NN : Int) ≤ 9223372036854775807 := by unfold maxLen at hNm; omega
  obtain ⟨KL, hKL⟩ : ∃ x, x = key.length := ⟨_, rfl⟩
  rw [← hKL] at HKY ⊢
  rw [← hNN]
  have HOC : Hid (off ≤ 9223372036854775807 ∧ ct < 18446744073709551616) := ⟨hoff, hct⟩
  have HBG1 := Lib.hid (HBG W0)
  clear hW0 hb0 g0 hn hk hsz hNl hNm hNN hKL hoff hct HBG
  go_enter Tryz.func3, Tryz.ntmps3
  go_wp2_with fail
  rw [← HW0.out]
  refine HBG1.out.mono ?_
  rintro e w1 ⟨rfl, hb1⟩
  have HB1 : Hid (Below w.heap.size w w1) := HB0.out.trans (hb1.mono HB0.out.size)
  have HG1 : Hid (w1.heap[w.heap.size]? = _) := (hb1.block _ (Array.getElem?_eq_some_iff.1 HG0.out).1).trans HG0.out
  clear hb1 HBG1 HG0 HW0 HB0
  by_cases h12 : (12 : Int) < NN
  · go_wp2
    go_ret
    exact ⟨rfl, HB1.out⟩
  by_cases h40 : (40 : Int) < KL
  · go_wp2
    go_ret
    exact ⟨rfl, HB1.out⟩
  have HN12 : Hid (NN ≤ 12) := by unfold Hid; omega
  go_wp2_with fail
  refine (new_any 1048576 w1).mono ?_
  rintro e w2 ⟨rfl, hd2, hb2⟩
  have HD2 := Lib.hid (Dsk.new hd2 hb2)
  clear hd2 hb2
  go_wp2_with fail
  refine (new_file tT tT_may (by decide +kernel) 1048576 (by omega) HD2.out).mono ?_
  rintro e w3 ⟨g, own3, hg, rfl, hst3, hd3, hf3⟩
  have HT3 := Lib.hid (made_tf hd3 hf3)
  clear hg hst3 hd3 hf3 HD2
  have hg3 := (HT3.out.disk.below.block _ (Array.getElem?_eq_some_iff.1 HG1.out).1).trans HG1.out
  have r0 := cells_of hg3 0
  have r1 := cells_of hg3 1
  simp only [List.getElem?_toArray, List.getElem?_cons_zero, List.getElem?_cons_succ] at r0 r1
  obtain ⟨W4, hW4⟩ : ∃ W4, W4 = w3.alloc (.cells #[.int .i64 off, .int .u64 (ct : Nat), .int .i64 0, .int .u64 0] 25) := ⟨_, rfl⟩
  have hb4 : Below w3.heap.size w3 W4 := by rw [hW4]; exact (Below.refl _ _).alloc (Nat.le_refl _) _
  have hg4 : W4.heap[w3.heap.size]? = some (.cells #[.int .i64 off, .int .u64 (ct : Nat), .int .i64 0, .int .u64 0] 25 (0, 0)) := by rw [hW4]; exact heap_alloc_new w3 _
  have HLP : Hid (L1 w1 g w1.heap.size NN (.slice (some ⟨w3.heap.size, 0, none⟩) 2 2) (.int .i64 (0 : Nat)) W4) :=
    ⟨0, 2, own3, [], [.cut 256], [⟨off, ct⟩, ⟨0, 0⟩], Nat.zero_le _, rfl, HT3.out.stay hb4, ⟨⟨rfl, .inr ⟨w3.heap.size, 2, _, rfl, HT3.out.disk.below.size, hg4, Nat.le_refl _, by unfold maxLen; decide, rfl, rfl⟩⟩, fun d hd => by
      rcases List.mem_cons.1 hd with rfl | hd
      · exact HOC.out
      · obtain rfl : d = ⟨0, 0⟩ := by simpa using hd
        exact ⟨by decide, by decide⟩⟩, rfl, Nat.le_refl _, by decide, by decide, fun b hb => by
      cases hb
      exact ⟨HT3.out.disk.new_none (Nat.le_refl _), Nat.ne_of_gt HT3.out.file.lt⟩⟩
  have HW4 := Lib.hid hW4
  clear hg3 hW4 hb4 hg4
  go_wp2
  clear r0 r1
  rw [← HW4.out]
  go_loopw [10, 11] (fun rv i wr => L1 w1 g w1.heap.size NN rv i wr) (fun _ i _ => NN - (intOf i).toNat)
  case atStart => exact HLP.out
  case round =>
    clear HLP HW4 HT3 W4
    rename World => wq
    obtain ⟨k, o, own, C, os, refs, hk, rfl, ht, hrow, hrl, hC, hos, ho, hfree⟩ := hrel
    obtain ⟨pr, cr, rfl, hprc, hcrm, -⟩ := owns_at hrow.1 (by decide)
    obtain ⟨RL, hRL⟩ : ∃ x, x = refs.length := ⟨_, rfl⟩
    have HRL := Lib.hid hRL
    have hRL9 : (RL : Int) ≤ 1000 := by have := HN12.out; omega
    have HBw : Hid (Below w.heap.size w wq) := HB1.out.trans (ht.disk.below.mono HB1.out.size)
    rw [← hRL]
    have HLEN : Hid (refs.length = k + 2 ∧ k ≤ 12) := ⟨hrl, by have := HN12.out; omega⟩
    by_cases hlt : k < NN
    · have hkl : k < nodes.length := by rw [← HNN.out]; exact hlt
      obtain ⟨lb, lo, cs0, rfl, hc0, pi, ci, pk, ck, pd, cd, rfl, hI0, hK0, hD0⟩ := HN.out.at_ k hkl
      obtain ⟨n, hnn⟩ : ∃ x, x = nodes[k] := ⟨_, rfl⟩
      rw [← hnn] at hc0 hI0 hK0 hD0
      have HSN : Hid (n.kids.length ≤ 8796093022000 ∧ n.ks.length ≤ 8796093022000) := by unfold Hid; rw [hnn]; exact HSZ.out _ (List.getElem_mem hkl)
      have hcw := hc0.below HBw.out
      have e0 := hcw 0 (by simp)
      have e1 := hcw 1 (by simp)
      have e2 := hcw 2 (by simp)
      have e3 := hcw 3 (by simp)
      simp only [List.getElem_cons_zero, List.getElem_cons_succ, KNd, Nat.add_zero] at e0 e1 e2 e3
      have HND : Hid (∀ w', Below w.heap.size w w' → RowAt KItem w' pi ci n.its ∧ RowAt KBytes w' pk ck n.ks) := fun w' hw' => ⟨hI0.below hw', hK0.below hw'⟩
      obtain ⟨W5, hW5⟩ : ∃ W5, W5 = wq.alloc (.cells #[.bool n.leaf, .slice pi n.its.length ci, .slice pk n.ks.length ck, .slice pd n.kids.length cd] 38) := ⟨_, rfl⟩
      have hb5 : Below wq.heap.size wq W5 := by rw [hW5]; exact (Below.refl _ _).alloc (Nat.le_refl _) _
      have HL2 : Hid (L2 w1 W5 wq.heap.size n.leaf (.slice pi n.its.length ci) (.slice pk n.ks.length ck) refs n.kids (.int .i64 (0 : Nat)) W5) :=
        ⟨0, pd, cd, Nat.zero_le _, Nat.zero_le _, rfl, by rw [hW5]; exact heap_alloc_new wq _, (hD0.below HBw.out).below hb5, fun lb' lo' hp h0 => .inl (by
          obtain ⟨lb2, lo2, e, hat⟩ := hD0.some h0
          rw [hp] at e
          cases e
          obtain ⟨cs', hc', rfl, -, -⟩ := hat 0 h0
          exact Nat.lt_of_lt_of_le (block_lt_of_cell hc'.two.1) HB1.out.size), Only.refl _ _⟩
      have HT5 := Lib.hid (ht.stay hb5)
      have HR5 : Hid (KdRow W5 w1.heap.size (.slice pr RL cr) refs) := by
        rw [← hRL] at hrow
        exact hrow.below' hb5
      have HFR : Hid (∀ b, (Value.slice pr RL cr).ownBlock = some b → own b = none ∧ b ≠ g ∧ b < wq.heap.size) := fun b hb => by
        rw [hRL] at hb
        obtain ⟨h1, h2⟩ := hfree b hb
        exact ⟨h1, h2, (hrow.1.lt b hb).2⟩
      have HNB : Hid (own wq.heap.size = none ∧ w1.heap.size ≤ wq.heap.size ∧ g < wq.heap.size) := ⟨ht.disk.new_none (Nat.le_refl _), ht.disk.below.size, ht.file.lt⟩
      have HW5 := Lib.hid hW5; have HB5 := Lib.hid hb5
      have HKO : Hid (k < NN ∧ refs.length = k + 2 ∧ C.length ≤ k * 4105 ∧ os.length ≤ k + 1 ∧ o ≤ k + 2) := ⟨hlt, hrl, hC, hos, ho⟩
      have hki : (k : Int) < NN := by omega
      have HN5 : Hid (∀ j, W5.heap.size ≤ j → own j = none) := fun j hj => HT5.out.disk.new_none hj
      have HZ5 : Hid (W5.heap.size = wq.heap.size + 1) := by unfold Hid; rw [hW5]; simp
      clear hk ht hrow hrl hC hos ho hfree hprc hcrm hRL hlt hkl hc0 hI0 hK0 hD0 hnn hcw hW5 hb5
      obtain ⟨NI, hNI⟩ : ∃ x, x = n.its.length := ⟨_, rfl⟩
      obtain ⟨NK, hNK⟩ : ∃ x, x = n.ks.length := ⟨_, rfl⟩
      obtain ⟨ND, hND⟩ : ∃ x, x = n.kids.length := ⟨_, rfl⟩
      have HNI := Lib.hid hNI; have HNK := Lib.hid hNK; have HNd := Lib.hid hND
      have hND9 : (ND : Int) ≤ 8796093022000 := by have := HSN.out; omega
      rw [← hNI] at e1 HW5 HL2
      rw [← hNK] at e2 HW5 HL2
      rw [← hND] at e3 HW5
      clear hNI hNK hND
      go_wp2
      clear e0 e1 e2 e3
      rw [← HW5.out]
      go_loopw [13] (fun m wx => L2 w1 W5 wq.heap.size n.leaf (.slice pi NI ci) (.slice pk NK ck) refs n.kids m wx) (fun m _ => 12 - (intOf m).toNat)
      case atStart => exact HL2.out
      case round =>
        clear HL2
        rename World => wx
        obtain ⟨j, p, c, hj, hj12, rfl, hg, hrk, hpl, hon⟩ := hrel
        have HON := Lib.hid hon
        have ht := HT5.out.grown (Only.grown hon) (fun q hq => by cases hq; exact ⟨HNB.out.1, HNB.out.2.1, Nat.ne_of_gt HNB.out.2.2⟩)
        have hrw : KdRow wx w1.heap.size (.slice pr RL cr) refs := by
          refine ⟨owns_stay HR5.out.1 (fun b hb => ?_), HR5.out.2⟩
          have h3 := HFR.out b hb
          exact hon.block b (by have := HZ5.out; omega) (by omega)
        have HT := Lib.hid ht; have HRW := Lib.hid hrw; have HRK := Lib.hid hrk; have HPL := Lib.hid hpl; have HG := Lib.hid hg
        have hjN : j ≤ ND := by rw [HNd.out]; exact hj
        have n0 := cells_of hg 0; have n1 := cells_of hg 1; have n2 := cells_of hg 2; have n3 := cells_of hg 3
        simp only [List.getElem?_toArray, List.getElem?_cons_zero, List.getElem?_cons_succ] at n0 n1 n2 n3
        rw [← HNd.out] at n3
        by_cases hin : j < ND ∧ j < 12
        · obtain ⟨hjd, hj2⟩ := hin
          have hjl : j < n.kids.length := by rw [← HNd.out]; exact hjd
          obtain ⟨lb1, lo1, rfl, hat⟩ := hrk.some (by rw [kidsTo_length]; omega)
          obtain ⟨cs1, hc1, rfl, hd1, hd2⟩ := hat j (by rw [kidsTo_length]; exact hjl)
          rw [kidsTo_at hjl] at hc1 hd1 hd2
          obtain ⟨e0, -⟩ := hc1.two
          simp only [KRef] at e0
          obtain ⟨Dk, hDk⟩ : ∃ x, x = n.kids[j] := ⟨_, rfl⟩
          rw [← hDk] at e0 hd1 hd2
          have hji : (j : Int) < ND := by omega
          have hj2i : (j : Int) < 12 := by omega
          have hwj : IntKind.i64.wrap ((j : Int) + 1) = (j + 1 : Nat) := by rw [IntKind.wrap_i64]; omega
          obtain ⟨J1, hJ1⟩ : ∃ x, x = j + 1 := ⟨_, rfl⟩
          have HJ1 := Lib.hid hJ1
          by_cases hr : 0 ≤ Dk.off ∧ Dk.off < (RL : Int)
          · obtain ⟨hr0, hr1⟩ := hr
            obtain ⟨J, hJ⟩ : ∃ J : Nat, Dk.off = J := ⟨Dk.off.toNat, by omega⟩
            have hJl : J < refs.length := by rw [← HRL.out]; omega
            obtain ⟨pr', cr', er, hatr⟩ := HRW.out.at_
            simp only [Value.slice.injEq] at er
            obtain ⟨rfl, -, rfl⟩ := er
            obtain ⟨rb, ro, rfl, hatr'⟩ := hatr.some (by omega)
            obtain ⟨csr, hcr, rfl, hq1, hq2⟩ := hatr' J hJl
            obtain ⟨f0, f1⟩ := hcr.two
            simp only [KRef] at f0 f1
            obtain ⟨rJ, hrJ⟩ : ∃ x, x = refs[J] := ⟨_, rfl⟩
            rw [← hrJ] at f0 f1 hq1 hq2
            have hsub : subK refs n.kids[j] = rJ := by
              rw [← hDk, hrJ]
              unfold subK
              rw [if_pos (by rw [← HRL.out]; exact ⟨hr0, hr1⟩), hJ, Int.toNat_natCast, List.getD_eq_getElem?_getD, List.getElem?_eq_getElem hJl]
              rfl
            rw [hJ] at e0 hr0 hr1
            have hklen : (kidsTo refs n.kids j).length = ND := by rw [kidsTo_length, HNd.out]
            have hup := RowAt.upto refT hrk j (j : Int) rfl (by rw [hklen]; omega)
            have htl : ((kidsTo refs n.kids j).take j).length = j := by rw [List.length_take, hklen]; omega
            have hdl : ((kidsTo refs n.kids j).drop J1).length = ND - J1 := by rw [List.length_drop, hklen]
            obtain ⟨lo2, cd2, hfr, hfx⟩ := rowAt_fromS refT hrk J1 (J1 : Int) rfl (by rw [hklen]; omega)
            obtain ⟨hup1, hupx⟩ := hup
            rw [htl, hklen] at hup1
            rw [hdl, hklen] at hfr
            obtain ⟨LD, hLD⟩ : ∃ x, x = ND - J1 := ⟨_, rfl⟩
            rw [← hLD] at hfr hdl
            rw [← hJ1] at hwj
            have hnn := HN5.out
            have HUP := Lib.hid hup1; have HFR := Lib.hid hfr
            have HUX : Hid (∀ wz, Below wx.heap.size wx wz → RowAt KRef wz (some ⟨lb1, lo1, none⟩) c ((kidsTo refs n.kids j).take j)) := fun wz hz => hupx.below hz
            have HFX : Hid (∀ wz, Below wx.heap.size wx wz → RowAt KRef wz (some ⟨lb1, lo2, none⟩) cd2 ((kidsTo refs n.kids j).drop J1)) := fun wz hz => hfx.below hz
            have HTL := Lib.hid htl; have HDL := Lib.hid hdl; have HRQ : Hid (rJ.off ≤ 9223372036854775807 ∧ rJ.ct < 18446744073709551616) := ⟨hq1, hq2⟩
            have HLDJ : Hid (j + 1 + LD = ND) := by unfold Hid; omega
            have HEND : Hid ((([] ++ (kidsTo refs n.kids j).take j) ++ [rJ]) ++ (kidsTo refs n.kids j).drop J1 = kidsTo refs n.kids (j + 1)) := by
              unfold Hid
              rw [List.nil_append, kidsTo_succ hjl, hsub, hJ1]
            have hGB : ∀ w', Below wx.heap.size wx w' → w'.heap[wq.heap.size]? = some (.cells #[.bool n.leaf, .slice pi NI ci, .slice pk NK ck, .slice (some ⟨lb1, lo1, none⟩) ND c] 38 (0, 0)) := fun w' hw' => by
              have h := HG.out
              rw [← HNd.out] at h
              exact (hw'.block _ (Array.getElem?_eq_some_iff.1 h).1).trans h
            have HGB := Lib.hid hGB
            have HS4 : Hid (∀ w', Below wx.heap.size wx w' → w'.cell? ⟨wq.heap.size, 3, none⟩ = some (.slice (some ⟨lb1, lo1, none⟩) ND c) ∧ w'.cell? ⟨lb1, lo1 + j * 2, none⟩ = some (.int .i64 (J : Int)) ∧ w'.cell? ⟨rb, ro + J * 2, none⟩ = some (.int .i64 rJ.off) ∧ w'.cell? ⟨rb, ro + J * 2 + 1, none⟩ = some (.int .u64 (rJ.ct : Nat))) := fun w' hw' => ⟨cells_of (hGB w' hw') 3, (hw'.cell (p := ⟨lb1, lo1 + j * 2, none⟩) (block_lt_of_cell e0)).trans e0, (hw'.cell (p := ⟨rb, ro + J * 2, none⟩) (block_lt_of_cell f0)).trans f0, (hw'.cell (p := ⟨rb, ro + J * 2 + 1, none⟩) (block_lt_of_cell f1)).trans f1⟩
            have HNXT : Hid (∀ (w' : World) (p' : Option Addr) (c' : Nat), KdRow w' wx.heap.size (.slice p' ND c') (kidsTo refs n.kids (j + 1)) → Below wx.heap.size wx w' → L2 w1 W5 wq.heap.size n.leaf (.slice pi NI ci) (.slice pk NK ck) refs n.kids (.int .i64 (J1 : Nat)) (w'.setCell ⟨wq.heap.size, 3, none⟩ (.slice p' ND c'))) := fun w' p' c' hrow hbw => by
              have hnb := hGB w' hbw
              have hxz : W5.heap.size ≤ wx.heap.size := HON.out.size
              have hlt := HZ5.out
              have hk2 : KdRow (w'.setCell ⟨wq.heap.size, 3, none⟩ (.slice p' ND c')) wx.heap.size (.slice p' ND c') (kidsTo refs n.kids (j + 1)) := ⟨owns_stay hrow.1 (fun b hb => heap_setCell_other w' ⟨wq.heap.size, 3, none⟩ b _ (by have := (hrow.1.lt b hb).1; show b ≠ wq.heap.size; omega)), hrow.2⟩
              obtain ⟨p2, c2, e2, hat2⟩ := hk2.at_
              simp only [Value.slice.injEq] at e2
              obtain ⟨rfl, -, rfl⟩ := e2
              refine ⟨j + 1, p', c', by omega, by omega, by rw [hJ1], ?_, hat2, fun lb' lo' hp _ => .inr ?_, (HON.out.trans ((Only.of_below hbw))).trans (Only.set _ _ _ _)⟩
              · have h := heap_setCell_same w' wq.heap.size 3 _ _ (.slice p' ND c') hnb
                rw [← HNd.out]
                exact h
              · subst hp
                have h := hk2.1.lt lb' rfl
                exact ⟨by omega, h.2⟩
            have HME : Hid (12 - J1 < 12 - j) := by unfold Hid; omega
            have HBD : Hid (Below wx.heap.size wx wx.drew) := (Below.refl _ _).drew
            have hrb : rb < wx.heap.size := block_lt_of_cell f0
            have hlb1 : lb1 < wx.heap.size := block_lt_of_cell e0
            have hnbl : wq.heap.size < wx.heap.size := (Array.getElem?_eq_some_iff.1 (hGB wx (Below.refl _ _))).1
            clear hDk hd1 hd2 hc1 hat hjl hjd hj2 hjN hrk hpl hg hj hj12 hon ht hrw hJ1 hJl hatr hatr' hcr hq1 hq2 hrJ hsub hJ hklen htl hdl hupx hfx hLD hnn hGB
            go_wp2_with fail
            rename_i Kc hKc
            refine wpAny_pop_region (head := ?hd) (n := 24) (by kernel_rfl) ?hpop ?hsz ?hp ?hsk ?hck ?hgo
            case hpop => (simp only [List.pop_toArray, List.dropLast]; rfl)
            case hsz => rfl
            case hp => kernel_rfl
            case hsk => kernel_rfl
            case hck => kernel_rfl
            refine wp_any_own
              [(kdOwn ([])),
               .is (.pointer (some ⟨wq.heap.size, 3, none⟩)), .is (.slice (some ⟨lb1, lo1, none⟩) ND c), .is (.int .i64 (j : Nat)), .is (.slice (some ⟨lb1, lo1, none⟩) j c),
               (kdOwn ([] ++ (kidsTo refs n.kids j).take j)),
               .is (.slice (some ⟨rb, ro, none⟩) RL cr), .is (.pointer (some ⟨wq.heap.size, 3, none⟩)), .is (.slice (some ⟨lb1, lo1, none⟩) ND c), .is (.int .i64 (j : Nat)), .is (.pointer (some ⟨lb1, lo1 + j * 2, none⟩)), .is (.pointer (some ⟨lb1, lo1 + j * 2, none⟩)), .is (.int .i64 (J : Nat)), .is (.pointer (some ⟨rb, ro + J * 2, none⟩)), .is (.agg #[.int .i64 rJ.off, .int .u64 (rJ.ct : Nat)]),
               (kdOwn ([rJ])),
               (kdOwn (([] ++ (kidsTo refs n.kids j).take j) ++ [rJ])),
               .is (.pointer (some ⟨wq.heap.size, 3, none⟩)), .is (.slice (some ⟨lb1, lo1, none⟩) ND c), .is (.int .i64 (j : Nat)), .is (.int .i64 (J1 : Nat)), .is (.slice (some ⟨lb1, lo2, none⟩) LD cd2),
               (kdOwn ((([] ++ (kidsTo refs n.kids j).take j) ++ [rJ]) ++ (kidsTo refs n.kids j).drop J1)),
               .is (.pointer (some ⟨wq.heap.size, 3, none⟩))]
              [[], [], [1], [], [2, 3], [0, 4], [], [], [7], [], [8, 9], [10], [11], [6, 12], [13], [14], [5, 15], [], [17], [], [19], [18, 20], [16, 21], []]
              [[], [], [], [], [], [0], [], [], [], [], [], [], [], [], [], [], [5], [], [], [], [], [], [16], []]
              [none, none, none, none, none, none, none, none, none, none, none, none, none, none, none, none, none, none, none, none, none, none, none, none]
              [true, false, false, false, false, true, false, false, false, false, false, false, false, false, false, true, true, false, false, false, false, false, true, false] [true, false, false, false, false, true, false, false, false, false, false, false, false, false, false, false, true, false, false, false, false, false, false, false] [] (by kernel_rfl) (by rfl) (by rfl) (by rfl) (by rfl) ?_ ?_
            · refine OwnOps.cons ?_ (OwnOps.cons ?_ (OwnOps.cons ?_ (OwnOps.cons ?_ (OwnOps.cons ?_ (OwnOps.cons ?_ (OwnOps.cons ?_ (OwnOps.cons ?_ (OwnOps.cons ?_ (OwnOps.cons ?_ (OwnOps.cons ?_ (OwnOps.cons ?_ (OwnOps.cons ?_ (OwnOps.cons ?_ (OwnOps.cons ?_ (OwnOps.cons ?_ (OwnOps.cons ?_ (OwnOps.cons ?_ (OwnOps.cons ?_ (OwnOps.cons ?_ (OwnOps.cons ?_ (OwnOps.cons ?_ (OwnOps.cons ?_ (OwnOps.cons ?_ (OwnOps.nil))))))))))))))))))))))))
              · intro wz hwz
                clear hKc
                refine withOwn_nil ?_
                refine own_run rfl rfl ?_
                refine OwnRun.mono (X0 := fun _ => False) (fun _ h => h.elim) ?_
                unfold OwnRun
                go_wp2
                exact ⟨rfl, kd_zero (kd_empty wz), rfl, Chg.of_below ((Below.refl _ _).alloc (Nat.le_refl _) _), fun _ k hk => .inl (kd_rowblk (kd_empty wz) k hk)⟩
              · intro wz hwz
                clear hKc
                refine withOwn_nil ?_
                refine own_run rfl rfl ?_
                refine OwnRun.mono (X0 := fun _ => False) (fun _ h => h.elim) ?_
                unfold OwnRun
                go_wp2
                exact ⟨rfl, rfl, rfl, Chg.of_below (Below.refl _ _), fun h => by cases h⟩
              · intro wz hwz
                clear hKc
                refine withOwn_is rfl rfl ?_
                refine withOwn_nil ?_
                simp only [Act.put, arr0, arr1, arr2]
                refine own_run rfl rfl ?_
                refine OwnRun.mono (X0 := fun _ => False) (fun _ h => h.elim) ?_
                unfold OwnRun
                obtain ⟨s0, s1, s2, s3⟩ := HS4.out wz hwz
                go_wp2
                exact ⟨rfl, rfl, rfl, Chg.of_below (Below.refl _ _), fun h => by cases h⟩
              · intro wz hwz
                clear hKc
                refine withOwn_nil ?_
                refine own_run rfl rfl ?_
                exact own_move rfl (by first | rfl | assumption)
              · intro wz hwz
                clear hKc
                refine withOwn_is rfl rfl ?_
                refine withOwn_is rfl rfl ?_
                refine withOwn_nil ?_
                simp only [Act.put, arr0, arr1, arr2]
                refine own_run rfl rfl ?_
                refine OwnRun.mono (X0 := fun _ => False) (fun _ h => h.elim) ?_
                have hs := HUP.out wz
                unfold OwnRun
                go_wp2
                exact ⟨rfl, rfl, rfl, Chg.of_below (Below.refl _ _), fun h => by cases h⟩
              · intro wz hwz
                clear hKc
                refine withOwn_own rfl rfl ?_
                intro vv0 hv0 hB0
                refine withOwn_is rfl rfl ?_
                refine withOwn_nil ?_
                simp only [Act.put, arr0, arr1, arr2]
                refine own_run rfl rfl ?_
                refine OwnRun.mono (X0 := fun k => blkOf vv0 = some k) (fun k hk => ⟨0, by simp, 96, rfl, hk⟩) ?_
                exact own_append_kd rfl hv0 (xs := (kidsTo refs n.kids j).take j) (p := some ⟨lb1, lo1, none⟩) (cap := c) (by rw [HTL.out]; rfl) (HUX.out wz hwz) (by rw [HTL.out]; simp; omega) (fun _ => .inr ⟨_, _, rfl⟩) (fun k hk => hk) rfl
              · intro wz hwz
                clear hKc
                refine withOwn_nil ?_
                refine own_run rfl rfl ?_
                exact own_move rfl (by first | rfl | assumption)
              · intro wz hwz
                clear hKc
                refine withOwn_nil ?_
                refine own_run rfl rfl ?_
                refine OwnRun.mono (X0 := fun _ => False) (fun _ h => h.elim) ?_
                unfold OwnRun
                go_wp2
                exact ⟨rfl, rfl, rfl, Chg.of_below (Below.refl _ _), fun h => by cases h⟩
              · intro wz hwz
                clear hKc
                refine withOwn_is rfl rfl ?_
                refine withOwn_nil ?_
                simp only [Act.put, arr0, arr1, arr2]
                refine own_run rfl rfl ?_
                refine OwnRun.mono (X0 := fun _ => False) (fun _ h => h.elim) ?_
                unfold OwnRun
                obtain ⟨s0, s1, s2, s3⟩ := HS4.out wz hwz
                go_wp2
                exact ⟨rfl, rfl, rfl, Chg.of_below (Below.refl _ _), fun h => by cases h⟩
              · intro wz hwz
                clear hKc
                refine withOwn_nil ?_
                refine own_run rfl rfl ?_
                exact own_move rfl (by first | rfl | assumption)
              · intro wz hwz
                clear hKc
                refine withOwn_is rfl rfl ?_
                refine withOwn_is rfl rfl ?_
                refine withOwn_nil ?_
                simp only [Act.put, arr0, arr1, arr2]
                refine own_run rfl rfl ?_
                refine OwnRun.mono (X0 := fun _ => False) (fun _ h => h.elim) ?_
                unfold OwnRun
                go_wp2
                exact ⟨rfl, rfl, rfl, Chg.of_below (Below.refl _ _), fun h => by cases h⟩
              · intro wz hwz
                clear hKc
                refine withOwn_is rfl rfl ?_
                refine withOwn_nil ?_
                simp only [Act.put, arr0, arr1, arr2]
                refine own_run rfl rfl ?_
                refine OwnRun.mono (X0 := fun _ => False) (fun _ h => h.elim) ?_
                unfold OwnRun
                go_wp2
                exact ⟨rfl, rfl, rfl, Chg.of_below (Below.refl _ _), fun h => by cases h⟩
              · intro wz hwz
                clear hKc
                refine withOwn_is rfl rfl ?_
                refine withOwn_nil ?_
                simp only [Act.put, arr0, arr1, arr2]
                refine own_run rfl rfl ?_
                refine OwnRun.mono (X0 := fun _ => False) (fun _ h => h.elim) ?_
                unfold OwnRun
                obtain ⟨s0, s1, s2, s3⟩ := HS4.out wz hwz
                go_wp2
                exact ⟨rfl, rfl, rfl, Chg.of_below (Below.refl _ _), fun h => by cases h⟩
              · intro wz hwz
                clear hKc
                refine withOwn_is rfl rfl ?_
                refine withOwn_is rfl rfl ?_
                refine withOwn_nil ?_
                simp only [Act.put, arr0, arr1, arr2]
                refine own_run rfl rfl ?_
                refine OwnRun.mono (X0 := fun _ => False) (fun _ h => h.elim) ?_
                unfold OwnRun
                go_wp2
                exact ⟨rfl, rfl, rfl, Chg.of_below (Below.refl _ _), fun h => by cases h⟩
              · intro wz hwz
                clear hKc
                refine withOwn_is rfl rfl ?_
                refine withOwn_nil ?_
                simp only [Act.put, arr0, arr1, arr2]
                refine own_run rfl rfl ?_
                refine OwnRun.mono (X0 := fun _ => False) (fun _ h => h.elim) ?_
                unfold OwnRun
                obtain ⟨s0, s1, s2, s3⟩ := HS4.out wz hwz
                go_wp2
                exact ⟨rfl, rfl, rfl, Chg.of_below (Below.refl _ _), fun h => by cases h⟩
              · intro wz hwz
                clear hKc
                refine withOwn_is rfl rfl ?_
                refine withOwn_nil ?_
                simp only [Act.put, arr0, arr1, arr2]
                refine own_run rfl rfl ?_
                refine OwnRun.mono (X0 := fun _ => False) (fun _ h => h.elim) ?_
                unfold OwnRun
                go_wp2
                exact ⟨rfl, kd_zero (kd_built wz rJ HRQ.out), rfl, Chg.of_below ((Below.refl _ _).alloc (Nat.le_refl _) _), fun _ k hk => .inl (kd_rowblk (kd_built wz rJ HRQ.out) k hk)⟩
              · intro wz hwz
                clear hKc
                refine withOwn_own rfl rfl ?_
                intro vv5 hv5 hB5
                refine withOwn_own rfl rfl ?_
                intro vv15 hv15 hB15
                refine withOwn_nil ?_
                simp only [Act.put, arr0, arr1, arr2]
                refine own_run rfl rfl ?_
                refine OwnRun.mono (X0 := fun k => blkOf vv5 = some k) (fun k hk => ⟨5, by simp, 101, rfl, hk⟩) ?_
                obtain ⟨pr1, cr1, er1, hr1⟩ := KdRow.at_ hv15
                exact own_append_kd rfl hv5 (xs := [rJ]) (p := pr1) (cap := cr1) er1 hr1 (by rw [List.length_append, HTL.out]; simp; omega) (fun h => by cases h) (fun k hk => hk) rfl
              · intro wz hwz
                clear hKc
                refine withOwn_nil ?_
                refine own_run rfl rfl ?_
                refine OwnRun.mono (X0 := fun _ => False) (fun _ h => h.elim) ?_
                unfold OwnRun
                go_wp2
                exact ⟨rfl, rfl, rfl, Chg.of_below (Below.refl _ _), fun h => by cases h⟩
              · intro wz hwz
                clear hKc
                refine withOwn_is rfl rfl ?_
                refine withOwn_nil ?_
                simp only [Act.put, arr0, arr1, arr2]
                refine own_run rfl rfl ?_
                refine OwnRun.mono (X0 := fun _ => False) (fun _ h => h.elim) ?_
                unfold OwnRun
                obtain ⟨s0, s1, s2, s3⟩ := HS4.out wz hwz
                go_wp2
                exact ⟨rfl, rfl, rfl, Chg.of_below (Below.refl _ _), fun h => by cases h⟩
              · intro wz hwz
                clear hKc
                refine withOwn_nil ?_
                refine own_run rfl rfl ?_
                exact own_move rfl (by first | rfl | assumption)
              · intro wz hwz
                clear hKc
                refine withOwn_is rfl rfl ?_
                refine withOwn_nil ?_
                simp only [Act.put, arr0, arr1, arr2]
                refine own_run rfl rfl ?_
                refine OwnRun.mono (X0 := fun _ => False) (fun _ h => h.elim) ?_
                unfold OwnRun
                go_wp2
                exact ⟨rfl, rfl, rfl, Chg.of_below (Below.refl _ _), fun h => by cases h⟩
              · intro wz hwz
                clear hKc
                refine withOwn_is rfl rfl ?_
                refine withOwn_is rfl rfl ?_
                refine withOwn_nil ?_
                simp only [Act.put, arr0, arr1, arr2]
                refine own_run rfl rfl ?_
                refine OwnRun.mono (X0 := fun _ => False) (fun _ h => h.elim) ?_
                have hs := HFR.out wz
                unfold OwnRun
                go_wp2
                exact ⟨rfl, rfl, rfl, Chg.of_below (Below.refl _ _), fun h => by cases h⟩
              · intro wz hwz
                clear hKc
                refine withOwn_own rfl rfl ?_
                intro vv16 hv16 hB16
                refine withOwn_is rfl rfl ?_
                refine withOwn_nil ?_
                simp only [Act.put, arr0, arr1, arr2]
                refine own_run rfl rfl ?_
                refine OwnRun.mono (X0 := fun k => blkOf vv16 = some k) (fun k hk => ⟨16, by simp, 112, rfl, hk⟩) ?_
                exact own_append_kd rfl hv16 (xs := (kidsTo refs n.kids j).drop J1) (p := some ⟨lb1, lo2, none⟩) (cap := cd2) (by rw [HDL.out]; rfl) (HFX.out wz hwz) (by rw [List.length_append, List.length_append, HTL.out, HDL.out]; simp; have := HLDJ.out; omega) (fun _ => .inr ⟨_, _, rfl⟩) (fun k hk => hk) rfl
              · intro wz hwz
                clear hKc
                refine withOwn_nil ?_
                refine own_run rfl rfl ?_
                refine OwnRun.mono (X0 := fun _ => False) (fun _ h => h.elim) ?_
                unfold OwnRun
                go_wp2
                exact ⟨rfl, rfl, rfl, Chg.of_below (Below.refl _ _), fun h => by cases h⟩
            intro wz hwz
            refine OwnEnd.dead rfl (fun _ => OwnEnd.is rfl (OwnEnd.is rfl (OwnEnd.is rfl (OwnEnd.is rfl (OwnEnd.dead rfl (fun _ => OwnEnd.is rfl (OwnEnd.is rfl (OwnEnd.is rfl (OwnEnd.is rfl (OwnEnd.is rfl (OwnEnd.is rfl (OwnEnd.is rfl (OwnEnd.is rfl (OwnEnd.is rfl (OwnEnd.own rfl (fun _ _ _ => OwnEnd.dead rfl (fun _ => OwnEnd.is rfl (OwnEnd.is rfl (OwnEnd.is rfl (OwnEnd.is rfl (OwnEnd.is rfl (OwnEnd.own rfl (fun v22 hv22 hB22 => OwnEnd.is rfl (OwnEnd.nil ?_))))))))))))))))))))))))
            simp only [Act.put, arr0, arr1, arr2]
            refine ViaEnd.nil ?_
            clear hup1 hfr
            rw [HEND.out] at hv22
            have hk22 := kd_from hv22 hB22
            obtain ⟨p22, c22, e22, -⟩ := KdRow.at_ hk22
            have hl22 : (kidsTo refs n.kids (j + 1)).length = ND := by rw [kidsTo_length, HNd.out]
            rw [hl22] at e22
            subst e22
            have HNX := Lib.hid (HNXT.out wz p22 c22 hk22 hwz)
            have hgz := HGB.out wz hwz
            have g3 := cells_of hgz 3
            have fr3 := free_of hgz 3
            simp only [List.getElem?_toArray, List.getElem?_cons_zero, List.getElem?_cons_succ] at g3
            clear hgz hk22 hv22 hB22 hl22 hwz
            refine popQ_go (by rfl) (by rfl) ?_
            go_simp
            refine hKc _ _ ?_
            clear hKc Kc g3 fr3
            go_wp2
            go_roundw
            case rel => exact HNX.out
            case measure => simp [intOf]; have := HME.out; omega
          · have hsame : kidsTo refs n.kids (j + 1) = kidsTo refs n.kids j := kidsTo_same hjl (by rw [← hDk]; unfold subK; rw [if_neg (by rw [← HRL.out]; exact hr)])
            have HNX : Hid (L2 w1 W5 wq.heap.size n.leaf (.slice pi NI ci) (.slice pk NK ck) refs n.kids (.int .i64 (J1 : Nat)) wx) := by
              rw [hJ1]
              exact ⟨j + 1, some ⟨lb1, lo1, none⟩, c, by omega, by omega, rfl, HG.out, by rw [hsame]; exact HRK.out, HPL.out, HON.out⟩
            rw [← hJ1] at hwj
            have HME : Hid (12 - J1 < 12 - j) := by unfold Hid; omega
            clear hDk hd1 hd2 hc1 hat hjl hjd hj2 hjN hrk hpl hg hj hj12 hon ht hrw hJ1 hsame
            by_cases hr0 : 0 ≤ Dk.off
            · have hr1 : ¬ Dk.off < (RL : Int) := fun h => hr ⟨hr0, h⟩
              clear hr
              go_wp2
              go_roundw
              case rel => exact HNX.out
              case measure => simp [intOf]; have := HME.out; omega
            · clear hr
              go_wp2
              go_roundw
              case rel => exact HNX.out
              case measure => simp [intOf]; have := HME.out; omega
        · obtain ⟨nx, hnx⟩ : ∃ x : Nd, x = ⟨n.leaf, n.its, n.ks, kidsTo refs n.kids j⟩ := ⟨_, rfl⟩
          have hIx : IsNd wx (.agg #[.bool n.leaf, .slice pi NI ci, .slice pk NK ck, .slice p ND c]) nx pi ci pk ck p c := by
            have hbx : Below w.heap.size w wx := HB1.out.trans (HT.out.disk.below.mono HB1.out.size)
            subst hnx
            refine ⟨?_, (HND.out wx hbx).1, (HND.out wx hbx).2, HRK.out⟩
            rw [HNI.out, HNK.out, HNd.out, ← kidsTo_length refs n.kids j]
          have HVL : Hid ((Value.agg #[.bool n.leaf, .slice pi NI ci, .slice pk NK ck, .slice p ND c]) = .agg #[.bool nx.leaf, .slice pi nx.its.length ci, .slice pk nx.ks.length ck, .slice p nx.kids.length c]) := hIx.val
          have HPS := Lib.hid (putNd_small hIx.fine)
          have HPL2 : Hid ((putNd nx).length ≤ 1300) := putNd_length nx
          have HIL : Hid (nx.its.length ≤ 9223372036854775807) := by
            have h1 := hIx.its.le; have h2 := hIx.its.most
            unfold maxLen at h2
            unfold Hid; omega
          have HPUT := Lib.hid (refPut_any hIx (fun _ => by
            have h1 := HSN.out
            subst hnx
            show n.ks.length + (kidsTo refs n.kids j).length ≤ _
            rw [kidsTo_length]
            omega))
          have HKI : Hid (nx.kids = kidsTo refs n.kids j) := by rw [hnx]; rfl
          have HIE : Hid (nx.its = n.its ∧ nx.ks = n.ks) := by rw [hnx]; exact ⟨rfl, rfl⟩
          clear hnx hIx hrk hpl hg hj hj12 hon ht hrw hjN
          by_cases hjd : (j : Int) < ND
          · have hj2 : ¬ (j : Int) < 12 := by omega
            clear hin
            go_wp2_with fail
            refine HPUT.out.mono ?_
            rintro z w6 ⟨v6, rfl, ho6, hb6⟩
            have hy6 := ho6.bytes HPS.out
            obtain ⟨p6, c6, rfl⟩ := ho6.shape
            have hTx := HT.out.stay hb6
            have HT6 := Lib.hid hTx
            have HAP := Lib.hid (app_tf (k := 2) HT6.out (by have := HKO.out; have := HN12.out; omega) (by have := HKO.out; have := HN12.out; omega) (by have := HKO.out; have := HN12.out; omega) (by decide) hy6 (by have := HPL2.out; omega))
            have HB6 := Lib.hid hb6
            obtain ⟨PL, hPL⟩ : ∃ x, x = (putNd nx).length := ⟨_, rfl⟩
            rw [← hPL] at HAP ⊢
            obtain ⟨AT, hAT⟩ : ∃ x, x = 256 + C.length := ⟨_, rfl⟩
            rw [← hAT] at HAP
            have HAT := Lib.hid hAT
            clear hAT ho6 hy6 hTx hb6 HPUT hPL
            go_wp2_with fail
            refine HAP.out.mono ?_
            rintro e w7 ⟨rfl, own7, hm7, ht7⟩
            have HB7 : Hid (Below w.heap.size w w7) := HB1.out.trans (ht7.disk.below.mono HB1.out.size)
            have hkeep : ∀ b, b < wx.heap.size → own b = none → b ≠ g → w7.heap[b]? = wx.heap[b]? := fun b h1 h2 h3 => (hm7.block b (Nat.lt_of_lt_of_le h1 HB6.out.size) h3 (.inl h2)).trans (HB6.out.block b h1)
            have hxz : W5.heap.size ≤ wx.heap.size := HON.out.size
            have hzz := HZ5.out
            have hnb7 := (hkeep wq.heap.size (by omega) HNB.out.1 (Nat.ne_of_gt HNB.out.2.2)).trans HG.out
            rw [← HNd.out] at hnb7
            have hkid7 : RowAt KRef w7 p c nx.kids := rowAt_keep (by rw [HKI.out]; exact HRK.out) (fun lb' lo' hp h0 => by
              rcases HPL.out lb' lo' hp (by rw [HKI.out, kidsTo_length] at h0; exact h0) with h | ⟨h1, h2⟩
              · exact (ht7.disk.below.block lb' h).trans (HT.out.disk.below.block lb' h).symm
              · exact hkeep lb' h2 (HN5.out lb' h1) (by have := HNB.out.2.2; omega))
            have hI7 : IsNd w7 (.agg #[.bool n.leaf, .slice pi NI ci, .slice pk NK ck, .slice p ND c]) nx pi ci pk ck p c := ⟨by rw [HVL.out], (by rw [HIE.out.1]; exact (HND.out w7 HB7.out).1), (by rw [HIE.out.2]; exact (HND.out w7 HB7.out).2), hkid7⟩
            have HCT := Lib.hid (ctOf_any hI7)
            have hrow7 : KdRow w7 w1.heap.size (.slice pr RL cr) refs := ⟨owns_stay HRW.out.1 (fun b hb => by
              have h3 := HFR.out b hb
              exact hkeep b (by omega) h3.1 h3.2.1), HRW.out.2⟩
            have HROW7 := Lib.hid hrow7; have HT7 := Lib.hid ht7; have HM7 := Lib.hid hm7
            have n0 := cells_of hnb7 0; have n1 := cells_of hnb7 1; have n2 := cells_of hnb7 2; have n3 := cells_of hnb7 3
            simp only [List.getElem?_toArray, List.getElem?_cons_zero, List.getElem?_cons_succ] at n0 n1 n2 n3
            clear hm7 ht7 hkeep hxz hzz hnb7 hkid7 hI7 hrow7 HAP
            go_wp2_with fail
            refine HCT.out.mono ?_
            rintro z w8 ⟨rfl, hb8⟩
            have hrow8 : KdRow w8 w1.heap.size (.slice pr RL cr) refs := HROW7.out.below' hb8
            have hT8 := HT7.out.stay hb8
            obtain ⟨CN, hCN⟩ : ∃ x, x = ctR nx := ⟨_, rfl⟩
            have hcn : CN < 18446744073709551616 := by
              rw [hCN]
              unfold ctR
              split
              · have := HIL.out; omega
              · exact Nat.mod_lt _ (by decide)
            have hat9 : AT ≤ 60000 := by have := HKO.out; have := HN12.out; have := HAT.out; omega
            obtain ⟨v9, w9, hrun9, hrow9, hg9⟩ := hrow8.push (d := (⟨(AT : Int), CN⟩ : NKd)) (by have := HKO.out; have := HN12.out; omega) hT8.disk.below.size (by exact ⟨by show (AT : Int) ≤ _; omega, hcn⟩)
            obtain ⟨pr9, cr9, rfl, -⟩ := owns_at hrow9.1 (by decide)
            have hl9 : (refs ++ [(⟨(AT : Int), CN⟩ : NKd)]).length = refs.length + 1 := by simp
            rw [hl9] at hrun9 hrow9 hg9
            have hb9 : ∀ b, (Value.slice pr RL cr).ownBlock = some b → own7 b = none ∧ w1.heap.size ≤ b ∧ b ≠ g := fun b hb => by
              have h3 := HFR.out b hb
              have h4 := hrow8.1.lt b hb
              exact ⟨(HM7.out.same b (by have := HB6.out.size; have := HON.out.size; have := HZ5.out; omega)).trans h3.1, h4.1, h3.2.1⟩
            have HNX : Hid (L1 w1 g w1.heap.size NN (.slice pr9 (refs.length + 1) cr9) (.int .i64 (k + 1 : Nat)) w9) :=
              ⟨k + 1, o + 1, own7, C ++ recOf 2 (putNd nx), os ++ [.write AT (recOf 2 (putNd nx))], refs ++ [⟨(AT : Int), CN⟩], HKO.out.1, rfl, hT8.grown hg9.by_ hb9, hrow9, by rw [List.length_append, HKO.out.2.1]; rfl, by rw [List.length_append, recOf_length]; have := HKO.out; have := HPL2.out; omega, by rw [List.length_append]; have := HKO.out; simp; omega, by have := HKO.out; omega, fun b hb => by
                rcases hg9.new with h | ⟨q, h, hq⟩
                · rw [h] at hb
                  exact ⟨(hb9 b hb).1, (hb9 b hb).2.2⟩
                · rw [h] at hb
                  cases hb
                  exact ⟨hT8.disk.new_none hq, by have := hT8.file.lt; omega⟩⟩
            have HRUN := Lib.hid hrun9
            have HME : Hid (NN - (k + 1) < NN - k) := by have := HKO.out; unfold Hid; omega
            have hwk : IntKind.i64.wrap ((k : Int) + 1) = (k + 1 : Nat) := by rw [IntKind.wrap_i64]; have := HN12.out; have := HKO.out.1; omega
            obtain ⟨K1, hK1⟩ : ∃ x, x = k + 1 := ⟨_, rfl⟩
            rw [← hK1] at HNX HME hwk
            rw [← hCN]
            clear hrow8 hT8 hcn hat9 hrow9 hg9 hb9 hrun9 hCN hb8 hl9 n0 n1 n2 n3 hK1
            go_wp2_with (at_builtin; refine Lib.wpList_append_run _ rfl (.tmp 130) (.tmp 135) 34 34 rfl _ _ rfl rfl _ w9 HRUN.out ?_)
            go_roundw
            case rel => exact HNX.out
            case measure => simp [intOf]; have := HME.out; omega
          · clear hin
            go_wp2_with fail
            refine HPUT.out.mono ?_
            rintro z w6 ⟨v6, rfl, ho6, hb6⟩
            have hy6 := ho6.bytes HPS.out
            obtain ⟨p6, c6, rfl⟩ := ho6.shape
            have hTx := HT.out.stay hb6
            have HT6 := Lib.hid hTx
            have HAP := Lib.hid (app_tf (k := 2) HT6.out (by have := HKO.out; have := HN12.out; omega) (by have := HKO.out; have := HN12.out; omega) (by have := HKO.out; have := HN12.out; omega) (by decide) hy6 (by have := HPL2.out; omega))
            have HB6 := Lib.hid hb6
            obtain ⟨PL, hPL⟩ : ∃ x, x = (putNd nx).length := ⟨_, rfl⟩
            rw [← hPL] at HAP ⊢
            obtain ⟨AT, hAT⟩ : ∃ x, x = 256 + C.length := ⟨_, rfl⟩
            rw [← hAT] at HAP
            have HAT := Lib.hid hAT
            clear hAT ho6 hy6 hTx hb6 HPUT hPL
            go_wp2_with fail
            refine HAP.out.mono ?_
            rintro e w7 ⟨rfl, own7, hm7, ht7⟩
            have HB7 : Hid (Below w.heap.size w w7) := HB1.out.trans (ht7.disk.below.mono HB1.out.size)
            have hkeep : ∀ b, b < wx.heap.size → own b = none → b ≠ g → w7.heap[b]? = wx.heap[b]? := fun b h1 h2 h3 => (hm7.block b (Nat.lt_of_lt_of_le h1 HB6.out.size) h3 (.inl h2)).trans (HB6.out.block b h1)
            have hxz : W5.heap.size ≤ wx.heap.size := HON.out.size
            have hzz := HZ5.out
            have hnb7 := (hkeep wq.heap.size (by omega) HNB.out.1 (Nat.ne_of_gt HNB.out.2.2)).trans HG.out
            rw [← HNd.out] at hnb7
            have hkid7 : RowAt KRef w7 p c nx.kids := rowAt_keep (by rw [HKI.out]; exact HRK.out) (fun lb' lo' hp h0 => by
              rcases HPL.out lb' lo' hp (by rw [HKI.out, kidsTo_length] at h0; exact h0) with h | ⟨h1, h2⟩
              · exact (ht7.disk.below.block lb' h).trans (HT.out.disk.below.block lb' h).symm
              · exact hkeep lb' h2 (HN5.out lb' h1) (by have := HNB.out.2.2; omega))
            have hI7 : IsNd w7 (.agg #[.bool n.leaf, .slice pi NI ci, .slice pk NK ck, .slice p ND c]) nx pi ci pk ck p c := ⟨by rw [HVL.out], (by rw [HIE.out.1]; exact (HND.out w7 HB7.out).1), (by rw [HIE.out.2]; exact (HND.out w7 HB7.out).2), hkid7⟩
            have HCT := Lib.hid (ctOf_any hI7)
            have hrow7 : KdRow w7 w1.heap.size (.slice pr RL cr) refs := ⟨owns_stay HRW.out.1 (fun b hb => by
              have h3 := HFR.out b hb
              exact hkeep b (by omega) h3.1 h3.2.1), HRW.out.2⟩
            have HROW7 := Lib.hid hrow7; have HT7 := Lib.hid ht7; have HM7 := Lib.hid hm7
            have n0 := cells_of hnb7 0; have n1 := cells_of hnb7 1; have n2 := cells_of hnb7 2; have n3 := cells_of hnb7 3
            simp only [List.getElem?_toArray, List.getElem?_cons_zero, List.getElem?_cons_succ] at n0 n1 n2 n3
            clear hm7 ht7 hkeep hxz hzz hnb7 hkid7 hI7 hrow7 HAP
            go_wp2_with fail
            refine HCT.out.mono ?_
            rintro z w8 ⟨rfl, hb8⟩
            have hrow8 : KdRow w8 w1.heap.size (.slice pr RL cr) refs := HROW7.out.below' hb8
            have hT8 := HT7.out.stay hb8
            obtain ⟨CN, hCN⟩ : ∃ x, x = ctR nx := ⟨_, rfl⟩
            have hcn : CN < 18446744073709551616 := by
              rw [hCN]
              unfold ctR
              split
              · have := HIL.out; omega
              · exact Nat.mod_lt _ (by decide)
            have hat9 : AT ≤ 60000 := by have := HKO.out; have := HN12.out; have := HAT.out; omega
            obtain ⟨v9, w9, hrun9, hrow9, hg9⟩ := hrow8.push (d := (⟨(AT : Int), CN⟩ : NKd)) (by have := HKO.out; have := HN12.out; omega) hT8.disk.below.size (by exact ⟨by show (AT : Int) ≤ _; omega, hcn⟩)
            obtain ⟨pr9, cr9, rfl, -⟩ := owns_at hrow9.1 (by decide)
            have hl9 : (refs ++ [(⟨(AT : Int), CN⟩ : NKd)]).length = refs.length + 1 := by simp
            rw [hl9] at hrun9 hrow9 hg9
            have hb9 : ∀ b, (Value.slice pr RL cr).ownBlock = some b → own7 b = none ∧ w1.heap.size ≤ b ∧ b ≠ g := fun b hb => by
              have h3 := HFR.out b hb
              have h4 := hrow8.1.lt b hb
              exact ⟨(HM7.out.same b (by have := HB6.out.size; have := HON.out.size; have := HZ5.out; omega)).trans h3.1, h4.1, h3.2.1⟩
            have HNX : Hid (L1 w1 g w1.heap.size NN (.slice pr9 (refs.length + 1) cr9) (.int .i64 (k + 1 : Nat)) w9) :=
              ⟨k + 1, o + 1, own7, C ++ recOf 2 (putNd nx), os ++ [.write AT (recOf 2 (putNd nx))], refs ++ [⟨(AT : Int), CN⟩], HKO.out.1, rfl, hT8.grown hg9.by_ hb9, hrow9, by rw [List.length_append, HKO.out.2.1]; rfl, by rw [List.length_append, recOf_length]; have := HKO.out; have := HPL2.out; omega, by rw [List.length_append]; have := HKO.out; simp; omega, by have := HKO.out; omega, fun b hb => by
                rcases hg9.new with h | ⟨q, h, hq⟩
                · rw [h] at hb
                  exact ⟨(hb9 b hb).1, (hb9 b hb).2.2⟩
                · rw [h] at hb
                  cases hb
                  exact ⟨hT8.disk.new_none hq, by have := hT8.file.lt; omega⟩⟩
            have HRUN := Lib.hid hrun9
            have HME : Hid (NN - (k + 1) < NN - k) := by have := HKO.out; unfold Hid; omega
            have hwk : IntKind.i64.wrap ((k : Int) + 1) = (k + 1 : Nat) := by rw [IntKind.wrap_i64]; have := HN12.out; have := HKO.out.1; omega
            obtain ⟨K1, hK1⟩ : ∃ x, x = k + 1 := ⟨_, rfl⟩
            rw [← hK1] at HNX HME hwk
            rw [← hCN]
            clear hrow8 hT8 hcn hat9 hrow9 hg9 hb9 hrun9 hCN hb8 hl9 n0 n1 n2 n3 hK1
            go_wp2_with (at_builtin; refine Lib.wpList_append_run _ rfl (.tmp 130) (.tmp 135) 34 34 rfl _ _ rfl rfl _ w9 HRUN.out ?_)
            go_roundw
            case rel => exact HNX.out
            case measure => simp [intOf]; have := HME.out; omega
    · have hok : (fsT 1048576 C os).Ok := fsT_ok (by decide) (by omega) (by omega)
      have hKl : (fsT 1048576 C os).K.length = 256 + C.length := fsT_len _ _ _
      have hKc : (fsT 1048576 C os).K.length ≤ 60000 := by omega
      have hby : Calls Tryz.prog 14 #[.pointer (some ⟨w1.heap.size, 0, none⟩), .string ⟨#[116]⟩] wq (ByFile (fsT 1048576 C os) w1 g w1.heap.size o own wq) := bytes_tf ht hok (by omega)
      have HBY := Lib.hid hby
      have ho9 : o ≤ 100 := by omega
      generalize fsT 1048576 C os = F at *
      rw [← hRL] at hrow hfree
      have HT := Lib.hid ht; have HOK := Lib.hid hok; have HROW := Lib.hid hrow; have HFREE := Lib.hid hfree; have HO9 := Lib.hid ho9; have HKC := Lib.hid hKc
      have hki : ¬ (k : Int) < NN := by omega
      clear ht hok hrow hfree hprc hcrm hC hos ho hrl hRL hk hKl hby ho9 hKc hlt
      go_wp2_with fail
      refine HBY.out.mono ?_
      rintro e wb ⟨pb, cb, rfl, hbv, hbl, hst, htb⟩
      have HTB := Lib.hid htb
      have HBV : Hid (∀ w', Steps own own wb w' → Bytes w' (.slice pb F.K.length cb) F.K) := fun w' hs => bytes_steps hbv hs (fun q hq => HT.out.disk.new_none (hbl q hq))
      have HKV : Hid (∀ w', Steps own own wb w' → Bytes w' (.slice kp KL kc) key) := fun w' hs => HKY.out.below (HB1.out.trans ((HTB.out.disk.below.trans (hs.below HTB.out.disk.below.size HTB.out.disk.far)).mono HB1.out.size))
      have HRW : Hid (∀ w', Steps own own wb w' → KdRow w' w1.heap.size (.slice pr RL cr) refs) := fun w' hs => by
        refine ⟨owns_stay HROW.out.1 (fun b hb => ?_), HROW.out.2⟩
        have h1 := (HROW.out.1.lt b hb).2
        exact ((hst.trans hs).block b h1 (.inl (HFREE.out b hb).1))
      have HSM : Hid (∀ c ∈ F.K, c < 256) := htb.small
      obtain ⟨KN, hKN⟩ : ∃ x, x = F.K.length := ⟨_, rfl⟩
      have HKN := Lib.hid hKN
      rw [← hKN] at HBV ⊢
      have HL3 : Hid (L3 F w1 g w1.heap.size (o + 1) own wb RL (.int .i64 (0 : Nat)) wb) := ⟨0, o + 1, Nat.zero_le _, rfl, htb, Steps.refl _ _, by omega⟩
      clear hbv hbl hst htb hKN HBY
      go_wp2
      go_loopw [18] (fun i wr => L3 F w1 g w1.heap.size (o + 1) own wb RL i wr) (fun i _ => RL - (intOf i).toNat)
      case atStart => exact HL3.out
      case round =>
        clear HL3
        rename World => wx
        obtain ⟨i, o2, hi, rfl, ht2, hs2, ho2⟩ := hrel
        by_cases hlt : i < RL
        · have hil : i < refs.length := by rw [← HRL.out]; exact hlt
          have hrx := HRW.out wx hs2
          obtain ⟨pr', cr', er, hatr⟩ := hrx.at_
          simp only [Value.slice.injEq] at er
          obtain ⟨rfl, -, rfl⟩ := er
          obtain ⟨rb, ro, rfl, hatr'⟩ := hatr.some (by omega)
          obtain ⟨csr, hcr, rfl, hq1, hq2⟩ := hatr' i hil
          obtain ⟨f0, f1⟩ := hcr.two
          simp only [KRef] at f0 f1
          obtain ⟨ri, hri⟩ : ∃ x, x = refs[i] := ⟨_, rfl⟩
          rw [← hri] at f0 f1 hq1 hq2
          have hR20 : RL ≤ 20 := by have := HN12.out; have := HRL.out; have := HLEN.out; omega
          have hob : o2 < 2305843009213693952 := by have := HO9.out; omega
          obtain ⟨X, hX⟩ : ∃ X, X = docAll F.K ri.off ri.ct := ⟨_, rfl⟩
          have hchk := check_any ht2 HOK.out hob ri.off ri.ct
          rw [chk_docAll HSM.out (by have := HKC.out; omega), ← hX] at hchk
          obtain ⟨DX, hDX⟩ : ∃ d, d = (X.map (·.2)).getD 0 := ⟨_, rfl⟩
          obtain ⟨NO, hNO⟩ : ∃ d, d = noOf (X.map (·.2)).isNone := ⟨_, rfl⟩
          unfold ChkTold at hchk
          rw [← hDX, ← hNO] at hchk
          have HDX := Lib.hid hDX; have HNO := Lib.hid hNO
          clear hDX hNO
          have HCHK := Lib.hid hchk
          have HQ : Hid (ri.off ≤ 9223372036854775807 ∧ ri.ct < 18446744073709551616) := ⟨hq1, hq2⟩
          have hii : (i : Int) < RL := by omega
          have HS2 := Lib.hid hs2; have HLT := Lib.hid hlt; have HO2 := Lib.hid ho2; have HX := Lib.hid hX; have HR20 := Lib.hid hR20
          have HRI : Hid (∀ w', Steps own own wb w' → w'.cell? ⟨rb, ro + i * 2, none⟩ = some (.int .i64 ri.off) ∧ w'.cell? ⟨rb, ro + i * 2 + 1, none⟩ = some (.int .u64 (ri.ct : Nat))) := fun w' hs => by
            obtain ⟨pr', cr', er, hatr⟩ := (HRW.out w' hs).at_
            simp only [Value.slice.injEq] at er
            obtain ⟨rfl, -, rfl⟩ := er
            obtain ⟨rb', ro', e, hatr'⟩ := hatr.some (by omega)
            cases e
            obtain ⟨csr, hcr, rfl, -, -⟩ := hatr' i hil
            rw [← hri] at hcr
            exact hcr.two
          clear hrx hatr hatr' hcr hq1 hq2 hri hR20 hob hX hchk hs2 ht2 ho2 hil hlt hi
          go_wp2_with fail
          refine HCHK.out.mono ?_
          rintro e w3 ⟨o3, h31, h32, hst3, ht3, rfl⟩
          have hs3 := HS2.out.trans hst3
          obtain ⟨f0', f1'⟩ := HRI.out w3 hs3
          have htr := refTree_any HSM.out (by have := HKC.out; omega) w3 pb cb ri.off ri.ct (by rw [← HKN.out]; exact HBV.out w3 hs3) HQ.out.2
          rw [← HX.out, ← HKN.out] at htr
          have HTR := Lib.hid htr; have HT3 := Lib.hid ht3; have HS3 := Lib.hid hs3
          have HO3 : Hid (o3 ≤ o + 1 + i * 2251799813685248 + 23 * 35184372088832) := by have := HO2.out; unfold Hid; omega
          clear f0 f1 h31 h32 hst3 ht3 hs3 htr HCHK
          go_wp2_with fail
          refine HTR.out.mono ?_
          rintro e w4 ⟨hb4, hc4⟩
          have HT4 := Lib.hid (HT3.out.stay hb4)
          have HS4 : Hid (Steps own own wb w4) := HS3.out.trans (Steps.of_below hb4)
          have hwi : IntKind.i64.wrap ((i : Int) + 1) = (i + 1 : Nat) := by rw [IntKind.wrap_i64]; have := HR20.out; have := HLT.out; omega
          have HME : Hid (RL - (i + 1) < RL - i) := by have := HLT.out; unfold Hid; omega
          have HNX : Hid (∀ w' o', Steps own own w4 w' → Tf F w1 g w1.heap.size o' own w' → o' ≤ o3 + 100000000 → L3 F w1 g w1.heap.size (o + 1) own wb RL (.int .i64 (i + 1 : Nat)) w') := fun w' o' h1 h2 h3 =>
            ⟨i + 1, o', by have := HLT.out; omega, rfl, h2, HS4.out.trans h1, by have := HO3.out; omega⟩
          obtain ⟨I1, hI1⟩ : ∃ x, x = i + 1 := ⟨_, rfl⟩
          rw [← hI1] at hwi HME HNX
          clear f0' f1' HTR hb4 hI1
          rcases hc4 with ⟨hno, rfl⟩ | ⟨l, h, pl, cl, hsome, rfl, hrl⟩
          · have hd : DX = 0 := by rw [HDX.out, hno]; rfl
            have hn : NO = 2 := by rw [HNO.out, hno]; rfl
            subst hd hn
            have HF := Lib.hid (HNX.out w4 o3 (Steps.refl _ _) HT4.out (by omega))
            go_wp2
            go_roundw
            case rel => exact HF.out
            case measure => simp [intOf]; have := HME.out; omega
          · have hd : DX = h := by rw [HDX.out, hsome]; rfl
            have hn : NO = 0 := by rw [HNO.out, hsome]; rfl
            subst hd hn
            have hdoc : docAll F.K ri.off ri.ct = some (l, DX) := by rw [← HX.out, hsome]
            obtain ⟨hpw, hll⟩ := docAll_good HSM.out hdoc
            have HGT : Hid (∀ kk, getAll F.K ri.off ri.ct kk = some (findV l kk)) := fun kk => get_docAll HSM.out (by have := HKC.out; omega) hdoc kk
            have HPW := Lib.hid hpw
            have HN3 : Hid (∀ q, w3.heap.size ≤ q → own q = none) := fun q hq => HT3.out.disk.new_none hq
            have HN4 : Hid (∀ q, w4.heap.size ≤ q → own q = none) := fun q hq => HT4.out.disk.new_none hq
            have HIR := Lib.hid hrl
            have HIT : Hid (∀ j (hj : j < l.length), ∃ g2 a2, pl = some ⟨g2, 0, none⟩ ∧ w4.cell? ⟨g2, j * 2, none⟩ = some a2 ∧ ∀ W', Steps own own w4 W' → Bytes W' a2 l[j].k) := fun j hj => by
              obtain ⟨g2, a2, b2, e, h1, h2, h3, h4, h5, h6⟩ := hrl.item hj
              exact ⟨g2, a2, e, h3, fun W' hW' => bytes_steps h5.bytes hW' (fun q hq => HN3.out q (h5.1.lt q hq).1)⟩
            obtain ⟨NL, hNL⟩ : ∃ x, x = l.length := ⟨_, rfl⟩
            have HNL := Lib.hid hNL
            have hNL6 : (NL : Int) ≤ 60000 := by have := HKC.out; omega
            obtain ⟨W5, hW5⟩ : ∃ W5, W5 = w4.alloc (.cells #[.slice kp KL kc] 26) := ⟨_, rfl⟩
            have hb5 : Below w4.heap.size w4 W5 := by rw [hW5]; exact (Below.refl _ _).alloc (Nat.le_refl _) _
            have HL4 : Hid (L4 own w4 key l (.slice (some ⟨w4.heap.size, 0, none⟩) 1 1) (.int .i64 (0 : Nat)) W5) := ⟨0, Nat.zero_le _, rfl, ⟨[.slice kp KL kc], rfl, ⟨rfl, .inr ⟨w4.heap.size, 1, _, rfl, Nat.le_refl _, by rw [hW5]; exact heap_alloc_new w4 _, Nat.le_refl _, by unfold maxLen; decide, rfl, rfl⟩⟩, fun j hj hj' W' hW' => by
              obtain rfl : j = 0 := by simp at hj'; omega
              exact HKV.out W' (HS4.out.trans hW')⟩, hb5⟩
            have HW5 := Lib.hid hW5
            rw [← hNL]
            clear hdoc hpw hll hrl hsome hNL hW5 hb5
            go_wp2
            rw [← HW5.out]
            go_loopw [24, 25] (fun v i wr => L4 own w4 key l v i wr) (fun _ i _ => NL - (intOf i).toNat)
            case atStart => exact HL4.out
            case round =>
              clear HL4
              rename World => wy
              obtain ⟨j, hj, rfl, hkf, hby⟩ := hrel
              have hklen : (key :: (l.take j).map (·.k)).length = j + 1 := by rw [List.length_cons, List.length_map, List.length_take]; omega
              obtain ⟨pv, cv, rfl⟩ : ∃ p c, _ = Value.slice p (j + 1) c := by
                obtain ⟨cs, h1, h2, h3⟩ := hkf
                rw [hklen] at h2
                obtain ⟨p, c, h, -⟩ := owns_at h2 (by decide)
                exact ⟨p, c, h⟩
              have hjN : j ≤ NL := by rw [HNL.out]; exact hj
              by_cases hlt : j < NL
              · have hjl : j < l.length := by rw [← HNL.out]; exact hlt
                obtain ⟨g2, a2, rfl, hc2, hlast⟩ := HIT.out j hjl
                obtain ⟨pa2, ca2, rfl, -⟩ := (hlast w4 (Steps.refl _ _)).any
                have hcy := (hby.cell (p := ⟨g2, j * 2, none⟩) (block_lt_of_cell hc2)).trans hc2
                obtain ⟨p', c', w', hrun, hkf2, hg9⟩ := hkf.push (by rw [hklen]; omega) hby.size hlast
                rw [hklen] at hrun hkf2
                have HNX : Hid (L4 own w4 key l (.slice p' (j + 1 + 1) c') (.int .i64 (j + 1 : Nat)) w') := ⟨j + 1, by omega, rfl, by
                  rw [List.take_succ_eq_append_getElem hjl, List.map_append, ← List.cons_append]
                  exact hkf2, hg9.below hby hby.size (fun q hq => by obtain ⟨cs, h1, h2, h3⟩ := hkf; exact (h2.lt q hq).1)⟩
                have HRUN := Lib.hid hrun
                have HM4 : Hid (NL - (j + 1) < NL - j) := by unfold Hid; omega
                have hji : (j : Int) < NL := by omega
                have hwj : IntKind.i64.wrap ((j : Int) + 1) = (j + 1 : Nat) := by rw [IntKind.wrap_i64]; omega
                generalize l[j].k.length = lk at *
                clear hj hkf hby hklen hjN hlt hjl hc2 hlast hrun hkf2 hg9
                go_wp2_with (at_builtin; refine Lib.wpList_append_run _ rfl (.tmp 204) (.tmp 210) 36 36 rfl _ _ rfl rfl _ w' HRUN.out ?_)
                go_roundw
                case rel => exact HNX.out
                case measure => simp [intOf]; have := HM4.out; omega
              · have hjN2 : j = NL := by omega
                have HTY := Lib.hid (HT4.out.stay hby)
                have HSY : Hid (Steps own own w4 wy) := Steps.of_below hby
                have HKF : Hid (KfRow own w4 wy w4.heap.size (.slice pv (NL + 1) cv) (key :: l.map (·.k))) := by
                  rw [List.take_of_length_le (by rw [← HNL.out]; omega)] at hkf
                  rw [← hjN2]
                  exact hkf
                have HL5 : Hid (L5 F w1 g w1.heap.size o3 own wy (NL + 1) (.int .i64 (0 : Nat)) wy) := ⟨0, o3, Nat.zero_le _, rfl, HTY.out, Steps.refl _ _, by omega⟩
                have hji : ¬ (j : Int) < NL := by omega
                clear hj hkf hby hklen hjN hlt
                obtain ⟨NM, hNM⟩ : ∃ x, x = NL + 1 := ⟨_, rfl⟩
                rw [← hNM] at HL5 HKF
                have hjm : j + 1 = NM := by omega
                rw [hjm]
                have HNM := Lib.hid hNM
                have hNM6 : (NM : Int) ≤ 60001 := by omega
                clear hNM hjm
                go_wp2
                clear hji
                go_loopw [26] (fun i wr => L5 F w1 g w1.heap.size o3 own wy NM i wr) (fun i _ => NM - (intOf i).toNat)
                case atStart => exact HL5.out
                case round =>
                  clear HL5
                  rename World => wz
                  obtain ⟨m, o5, hm, rfl, ht5, hs5, ho5⟩ := hrel
                  by_cases hmt : m < NM
                  · have hml : m < (key :: l.map (·.k)).length := by rw [List.length_cons, List.length_map, ← HNL.out]; have := HNM.out; omega
                    obtain ⟨gk, ak, rfl, hgk1, hgk2, hkc, hklast⟩ := HKF.out.item hml
                    obtain ⟨Km, hKm⟩ : ∃ x, x = (key :: l.map (·.k))[m] := ⟨_, rfl⟩
                    rw [← hKm] at hklast
                    obtain ⟨pk2, ck2, rfl, -⟩ := (hklast w4 (Steps.refl _ _)).any
                    obtain ⟨lk, hlk⟩ : ∃ x, x = Km.length := ⟨_, rfl⟩
                    rw [← hlk] at hklast hkc
                    have HKL5 : Hid (∀ W', Steps own own wz W' → Bytes W' (.slice pk2 lk ck2) Km) := fun W' hW' => hklast W' (HSY.out.trans (hs5.trans hW'))
                    have HSS : Hid (∀ w', Steps own own wz w' → w'.cell? ⟨rb, ro + i * 2, none⟩ = some (.int .i64 ri.off) ∧ w'.cell? ⟨rb, ro + i * 2 + 1, none⟩ = some (.int .u64 (ri.ct : Nat)) ∧ w'.cell? ⟨gk, m, none⟩ = some (.slice pk2 lk ck2)) := fun w' hs => by
                      obtain ⟨q1, q2⟩ := HRI.out w' (HS4.out.trans (HSY.out.trans (hs5.trans hs)))
                      exact ⟨q1, q2, (cell_same ((hs5.trans hs).block gk hgk2 (.inl (HN4.out gk hgk1)))).trans hkc⟩
                    obtain ⟨FV, hFV⟩ : ∃ x, x = findV l Km := ⟨_, rfl⟩
                    have HT5 := Lib.hid ht5
                    have HG3 : Hid (∀ wx' : World, wx'.heap = wz.heap → wx'.os = wz.os → wx'.tape = wz.tape → wx'.output = wz.output → Calls Tryz.prog 17 #[.pointer (some ⟨g, 0, none⟩), .agg #[.int .i64 ri.off, .int .u64 (ri.ct : Nat)], .slice pk2 lk ck2] wx' (fun e w' => ∃ pr2 lr cr2 b, e = .returned (.tuple #[.slice pr2 lr cr2, .bool b, .int .i64 0]) ∧ (w'.cell? ⟨rb, ro + i * 2, none⟩ = some (.int .i64 ri.off) ∧ w'.cell? ⟨rb, ro + i * 2 + 1, none⟩ = some (.int .u64 (ri.ct : Nat)) ∧ w'.cell? ⟨gk, m, none⟩ = some (.slice pk2 lk ck2)) ∧ Steps own own wz w' ∧ (∃ o', o5 ≤ o' ∧ o' ≤ o5 + 23 ∧ Tf F w1 g w1.heap.size o' own w') ∧ ((FV = none ∧ b = false ∧ pr2 = none ∧ lr = 0 ∧ cr2 = 0) ∨ ∃ v, FV = some v ∧ b = true ∧ lr = v.length ∧ ∀ W', Steps own own w' W' → Bytes W' (.slice pr2 lr cr2) v))) := fun wx' h1 h2 h3 h4 => by
                      have hbx : Below wz.heap.size wz wx' := below_eq h1 h2 h3 h4
                      have hget := get_any (HT5.out.stay hbx) HOK.out (by have := HO3.out; have := HO9.out; have := HR20.out; have := HLT.out; have := HNM.out; omega) ri.off ri.ct (.slice pk2 lk ck2) Km (fun W' hW' => HKL5.out W' ((Steps.of_below hbx).trans hW'))
                      rw [HGT.out, ← hFV] at hget
                      refine hget.mono ?_
                      rintro e w' ⟨o', q1, q2, q3, q4, q5⟩
                      have hs' := (Steps.of_below hbx).trans q3
                      cases FV with
                      | none =>
                        have q5' : e = _ := q5
                        exact ⟨none, 0, 0, false, q5', HSS.out w' hs', hs', ⟨o', q1, q2, q4⟩, .inl ⟨rfl, rfl, rfl, rfl, rfl⟩⟩
                      | some v =>
                        obtain ⟨p, c, h5, h6⟩ := q5
                        exact ⟨p, v.length, c, true, h5, HSS.out w' hs', hs', ⟨o', q1, q2, q4⟩, .inr ⟨v, rfl, rfl, rfl, h6⟩⟩
                    have hmi : (m : Int) < NM := by omega
                    have hii : (i : Int) < RL := by have := HLT.out; omega
                    have hwm : IntKind.i64.wrap ((m : Int) + 1) = (m + 1 : Nat) := by rw [IntKind.wrap_i64]; omega
                    have HM5 : Hid (NM - (m + 1) < NM - m) := by unfold Hid; omega
                    have HFV := Lib.hid hFV
                    have HMM : Hid (m < NM ∧ o5 ≤ o3 + m * 30) := ⟨hmt, ho5⟩
                    have HS5 := Lib.hid hs5
                    obtain ⟨e0, e1, e2⟩ := HSS.out wz (Steps.refl _ _)
                    clear hml hgk1 hgk2 hkc hklast hKm hlk hFV ht5 hs5 ho5 hm hmt
                    go_wp2_with fail
                    go_region_held3 (fun w' => w'.cell? ⟨rb, ro + i * 2, none⟩ = some (.int .i64 ri.off) ∧ w'.cell? ⟨rb, ro + i * 2 + 1, none⟩ = some (.int .u64 (ri.ct : Nat)) ∧ w'.cell? ⟨gk, m, none⟩ = some (.slice pk2 lk ck2)) (go_keep)
                      (first
                        | (go_at_call 17; refine (HG3.out _ (by rfl) (by rfl) (by rfl) (by rfl)).mono ?_; rintro e6 w6 ⟨pr2, lr, cr2, b, rfl, ⟨s0, s1, s2⟩, hst6, htf6, hgot⟩))
                    obtain ⟨o6, ho61, ho62, ht6⟩ := htf6
                    have hir6 := HIR.out.steps (HSY.out.trans (HS5.out.trans hst6)) HN3.out
                    obtain ⟨pl', cl', el, hat6⟩ := hir6.at_
                    simp only [Value.slice.injEq] at el
                    obtain ⟨rfl, -, rfl⟩ := el
                    have hfi := refFind_any hat6 (HKL5.out w6 hst6)
                    unfold FiTold at hfi
                    obtain ⟨AT, hAT⟩ : ∃ x, x = atN (l.map (·.k)) Km := ⟨_, rfl⟩
                    obtain ⟨IN, hIN⟩ : ∃ x, x = isN (l.map (·.k)) Km := ⟨_, rfl⟩
                    rw [← hAT, ← hIN, ← HNL.out] at hfi
                    have HFI := Lib.hid hfi
                    have HAT := Lib.hid hAT; have HIN := Lib.hid hIN; have HT6 := Lib.hid ht6; have HST6 := Lib.hid hst6; have HGOT := Lib.hid hgot; have HO6 : Hid (o6 ≤ o5 + 23) := ho62
                    have hfd := find_doc Km HPW.out
                    rw [← HFV.out, ← hIN] at hfd
                    unfold belowIt at hfd
                    rw [← hAT] at hfd
                    have HFD3 := Lib.hid hfd
                    clear hir6 hat6 hfi hAT hIN ht6 hst6 hgot ho61 ho62 hfd e0 e1 e2 HG3
                    go_wp2_with fail
                    refine HFI.out.mono ?_
                    rintro e w7 ⟨rfl, hb7⟩
                    have HS7 : Hid (Steps own own w6 w7) := Steps.of_below hb7
                    have HN5 : Hid (∀ w', Below w7.heap.size w7 w' → L5 F w1 g w1.heap.size o3 own wy NM (.int .i64 (m + 1 : Nat)) w') := fun w' hw' => ⟨m + 1, o6, by have := HMM.out.1; omega, rfl, (HT6.out.stay hb7).stay hw', HS5.out.trans (HST6.out.trans (HS7.out.trans (Steps.of_below hw'))), by have := HMM.out.2; have := HO6.out; omega⟩
                    clear hb7 s0 s1 s2 HFI
                    obtain ⟨M1, hM1⟩ : ∃ x, x = m + 1 := ⟨_, rfl⟩
                    rw [← hM1] at HN5 HM5 hwm
                    clear hM1
                    cases hI : IN with
                    | true =>
                      have hal : AT < l.length := by
                        have h1 := isN_lt (ks := l.map (·.k)) (key := Km) (by rw [← HIN.out]; exact hI)
                        rw [← HAT.out, List.length_map] at h1
                        exact h1
                      have hfv : FV = some l[AT].v := by rw [HFD3.out, if_pos hI, List.getElem?_eq_getElem hal]; rfl
                      obtain ⟨v2, hv2, rfl, hlr, hlast2⟩ : ∃ v, v = l[AT].v ∧ b = true ∧ lr = v.length ∧ ∀ W', Steps own own w6 W' → Bytes W' (.slice pr2 lr cr2) v := by
                        rcases HGOT.out with ⟨h, -⟩ | ⟨v, h, h2, h3, h4⟩
                        · rw [hfv] at h; cases h
                        · rw [hfv] at h; cases h; exact ⟨_, rfl, h2, h3, h4⟩
                      obtain ⟨g2, a2, b2, rfl, hg21, hg22, -, hc57, -, htx⟩ := HIR.out.item hal
                      obtain ⟨vv2, hvv2⟩ : ∃ x, x = v2 := ⟨_, rfl⟩
                      rw [← hvv2] at hlast2 hlr hv2
                      rw [← hv2] at htx
                      obtain ⟨pb2, cb2, rfl, -⟩ := htx.bytes.any
                      rw [← hlr] at hc57 htx
                      have hs47 : Steps own own w4 w7 := HSY.out.trans (HS5.out.trans (HST6.out.trans HS7.out))
                      have HB27 : Hid (∀ wv, Below w7.heap.size w7 wv → Bytes wv (.slice pr2 lr cr2) vv2) := fun wv hwv => hlast2 wv (HS7.out.trans (Steps.of_below hwv))
                      have HB57 : Hid (∀ wv, Below w7.heap.size w7 wv → Bytes wv (.slice pb2 lr cb2) vv2) := fun wv hwv => (by
                        have h := bytes_steps (w := w4) (v := .slice pb2 lr cb2) (l := vv2) (by have := htx.bytes; exact this) (hs47.trans (Steps.of_below hwv)) (fun q hq => HN3.out q (htx.1.lt q hq).1)
                        exact h)
                      have HC57 : Hid (∀ wv, Below w7.heap.size w7 wv → wv.cell? ⟨g2, AT * 2 + 1, none⟩ = some (.slice pb2 lr cb2)) := fun wv hwv => (cell_same ((hs47.trans (Steps.of_below hwv)).block g2 hg22 (.inl (HN3.out g2 hg21)))).trans hc57
                      have hai : (AT : Int) < NL := by have := HNL.out; omega
                      have HNQ : Hid (((strOf vv2).toList != (strOf vv2).toList) = false) := by unfold Hid; simp
                      clear hal hfv hv2 hlr hlast2 hg21 hg22 hc57 htx hvv2 hs47 hI
                      go_wp2_with fail
                      rename_i Kc hKc
                      refine wp_region_left (by kernel_rfl)
                        [.is (.int .i64 0), .is (.bool false), .is (.bool false), .is (.bool true), .is (.bool true), .is (.bool false), .is (.bool false), .is (.bool false), .is (.bool true), .is (.bool true), .is (.slice pr2 lr cr2), .is (.string (strOf vv2)), .is (.slice (some ⟨g2, 0, none⟩) NL cl), .is (.int .i64 (AT : Nat)), .is (.pointer (some ⟨g2, AT * 2, none⟩)), .is (.pointer (some ⟨g2, AT * 2 + 1, none⟩)), .is (.slice pb2 lr cb2), .is (.string (strOf vv2)), .is (.bool false), .is (.bool false), .is (.bool false), .is (.bool false), .is (.bool true), .is (.bool false), .is (.bool false), .is undef, .is undef, .is undef, .is (.bool false), .is (.bool false)]
                        [[],[0],[1],[2],[2],[2,3,4],[2,5],[6],[7],[7,8],[9],[9,10],[9],[9],[9,12,13],[9,14],[9,15],[9,16],[9,11,17],[7,9,18],[7,19],[20],[21],[21,22],[21,23],[24],[24,25],[24,26],[21,24,27],[21,28]] (by kernel_rfl) (by rfl) ?_ ?_
                      · repeat' (first | exact LeftOps.nil | refine LeftOps.cons ?_ ?_)
                        all_goals (intro wv hwv; clear hKc; try ((repeat ((with_reducible apply withLeft_is); exact rfl; exact rfl)); (with_reducible refine withLeft_nil ?_); (try simp only [Act.put, arr0, arr1, arr2])))
                        · refine lft_run rfl rfl ?_; exact lmv
                        · refine lft_run rfl rfl ?_; unfold LftRun; go_wp2; exact lend
                        · refine lft_run rfl rfl ?_; exact lmv
                        · refine lft_want rfl rfl rfl rfl ?_; exact lmv
                        · refine lft_want rfl rfl rfl rfl ?_; exact lmv
                        · refine lft_want rfl rfl rfl rfl ?_; unfold LftRun; go_wp2; exact ⟨rfl, (by first | rfl | exact congrArg Value.bool (by first | assumption | exact HNQ.out | (simp; done))), rfl, Below.refl _ _⟩
                        · refine lft_run rfl rfl ?_; exact lpk
                        · refine lft_run rfl rfl ?_; exact lmv
                        · refine lft_want rfl rfl rfl rfl ?_; exact lmv
                        · refine lft_want rfl rfl rfl rfl ?_; exact lmv
                        · refine lft_want rfl rfl rfl rfl ?_; exact lmv
                        · refine lft_want rfl rfl rfl rfl ?_; have hcv := (HB27.out wv hwv).toString (P := Tryz.prog) byT (d := 9) (by kernel_rfl); unfold LftRun; go_wp2; exact lend
                        · refine lft_want rfl rfl rfl rfl ?_; exact lmv
                        · refine lft_want rfl rfl rfl rfl ?_; exact lmv
                        · refine lft_want rfl rfl rfl rfl ?_; unfold LftRun; go_wp2; exact lend
                        · refine lft_want rfl rfl rfl rfl ?_; unfold LftRun; go_wp2; exact lend
                        · refine lft_want rfl rfl rfl rfl ?_; have g3 := HC57.out wv hwv; unfold LftRun; go_wp2; exact lend
                        · refine lft_want rfl rfl rfl rfl ?_; have hcv := (HB57.out wv hwv).toString (P := Tryz.prog) byT (d := 9) (by kernel_rfl); unfold LftRun; go_wp2; exact lend
                        · refine lft_want rfl rfl rfl rfl ?_; unfold LftRun; go_wp2; exact ⟨rfl, (by first | rfl | exact congrArg Value.bool (by first | assumption | exact HNQ.out | (simp; done))), rfl, Below.refl _ _⟩
                        · refine lft_want rfl rfl rfl rfl ?_; exact lpk
                        · refine lft_run rfl rfl ?_; exact lpk
                        · refine lft_run rfl rfl ?_; exact lmv
                        · refine lft_want rfl rfl rfl rfl ?_; exact lmv
                        · refine lft_want rfl rfl rfl rfl ?_; unfold LftRun; go_wp2; exact lend
                        · refine lft_want rfl rfl rfl rfl ?_; exact lmv
                        · exact lsk
                        · exact lsk
                        · exact lsk
                        · refine lft_want rfl rfl rfl rfl ?_; exact lpk
                        · refine lft_run rfl rfl ?_; exact lpk
                      intro wv hwv
                      refine le8 (le8 (le8 (LeftEnd.is (LeftEnd.is (LeftEnd.is (LeftEnd.is (LeftEnd.is (LeftEnd.is (LeftEnd.nil ?_)))))))))
                      simp only [Act.put, arr0, arr1, arr2]
                      refine hKc _ _ ?_
                      clear hKc Kc
                      have HF := Lib.hid (HN5.out wv hwv)
                      clear hwv
                      go_wp2
                      go_roundw
                      case rel => exact HF.out
                      case measure => simp [intOf]; have := HM5.out; omega
                    | false =>
                      have hfv : FV = none := by rw [HFD3.out, hI, if_neg (by decide)]
                      obtain ⟨rfl, rfl, rfl, rfl⟩ : b = false ∧ pr2 = none ∧ lr = 0 ∧ cr2 = 0 := by
                        rcases HGOT.out with ⟨-, h⟩ | ⟨v, h, -⟩
                        · exact h
                        · rw [hfv] at h; cases h
                      have HNQ : Hid True := trivial
                      clear hfv hI
                      go_wp2_with fail
                      rename_i Kc hKc
                      refine wp_region_left (by kernel_rfl)
                        [.is (.int .i64 0), .is (.bool false), .is (.bool false), .is (.bool false), .is (.bool false), .is (.bool false), .is (.bool false), .is (.bool false), .is (.bool false), .is (.bool false), .is undef, .is undef, .is undef, .is undef, .is undef, .is undef, .is undef, .is undef, .is undef, .is (.bool false), .is (.bool false), .is (.bool false), .is (.bool false), .is (.bool true), .is (.bool true), .is (.slice none 0 0), .is (.int .i64 0), .is (.bool false), .is (.bool false), .is (.bool false)]
                        [[],[0],[1],[2],[2],[2,3,4],[2,5],[6],[7],[7,8],[9],[9,10],[9],[9],[9,12,13],[9,14],[9,15],[9,16],[9,11,17],[7,9,18],[7,19],[20],[21],[21,22],[21,23],[24],[24,25],[24,26],[21,24,27],[21,28]] (by kernel_rfl) (by rfl) ?_ ?_
                      · repeat' (first | exact LeftOps.nil | refine LeftOps.cons ?_ ?_)
                        all_goals (intro wv hwv; clear hKc; try ((repeat ((with_reducible apply withLeft_is); exact rfl; exact rfl)); (with_reducible refine withLeft_nil ?_); (try simp only [Act.put, arr0, arr1, arr2])))
                        · refine lft_run rfl rfl ?_; exact lmv
                        · refine lft_run rfl rfl ?_; unfold LftRun; go_wp2; exact lend
                        · refine lft_run rfl rfl ?_; exact lmv
                        · refine lft_want rfl rfl rfl rfl ?_; exact lmv
                        · refine lft_want rfl rfl rfl rfl ?_; exact lmv
                        · refine lft_want rfl rfl rfl rfl ?_; unfold LftRun; go_wp2; exact ⟨rfl, (by first | rfl | exact congrArg Value.bool (by first | assumption | exact HNQ.out | (simp; done))), rfl, Below.refl _ _⟩
                        · refine lft_run rfl rfl ?_; exact lpk
                        · refine lft_run rfl rfl ?_; exact lmv
                        · refine lft_want rfl rfl rfl rfl ?_; exact lmv
                        · refine lft_want rfl rfl rfl rfl ?_; exact lmv
                        · exact lsk
                        · exact lsk
                        · exact lsk
                        · exact lsk
                        · exact lsk
                        · exact lsk
                        · exact lsk
                        · exact lsk
                        · exact lsk
                        · refine lft_want rfl rfl rfl rfl ?_; exact lpk
                        · refine lft_run rfl rfl ?_; exact lpk
                        · refine lft_run rfl rfl ?_; exact lmv
                        · refine lft_want rfl rfl rfl rfl ?_; exact lmv
                        · refine lft_want rfl rfl rfl rfl ?_; unfold LftRun; go_wp2; exact lend
                        · refine lft_want rfl rfl rfl rfl ?_; exact lmv
                        · refine lft_want rfl rfl rfl rfl ?_; exact lmv
                        · refine lft_want rfl rfl rfl rfl ?_; unfold LftRun; go_wp2; exact lend
                        · refine lft_want rfl rfl rfl rfl ?_; unfold LftRun; go_wp2; exact ⟨rfl, (by first | rfl | exact congrArg Value.bool (by first | assumption | exact HNQ.out | (simp; done))), rfl, Below.refl _ _⟩
                        · refine lft_want rfl rfl rfl rfl ?_; exact lpk
                        · refine lft_run rfl rfl ?_; exact lpk
                      intro wv hwv
                      refine le8 (le8 (le8 (LeftEnd.is (LeftEnd.is (LeftEnd.is (LeftEnd.is (LeftEnd.is (LeftEnd.is (LeftEnd.nil ?_)))))))))
                      simp only [Act.put, arr0, arr1, arr2]
                      refine hKc _ _ ?_
                      clear hKc Kc
                      have HF := Lib.hid (HN5.out wv hwv)
                      clear hwv
                      go_wp2
                      go_roundw
                      case rel => exact HF.out
                      case measure => simp [intOf]; have := HM5.out; omega
                  · have HF := Lib.hid (HNX.out wz o5 (HSY.out.trans hs5) ht5 (by have := HNM.out; omega))
                    have hmi : ¬ (m : Int) < NM := by omega
                    clear hm ht5 hs5 ho5 hmt
                    go_wp2
                    go_roundw
                    case rel => exact HF.out
                    case measure => simp [intOf]; have := HME.out; omega
        · have HBE : Hid (Below w.heap.size w wx) := HB1.out.trans (ht2.disk.below.mono HB1.out.size)
          have hir : ¬ (i : Int) < RL := by omega
          clear ht2 hs2 ho2 hi hlt
          go_wp2
          go_ret
          exact ⟨rfl, HBE.out⟩
end Go.Proofs.YtdbgihpognfhdaaGreat.Sl.Nd
