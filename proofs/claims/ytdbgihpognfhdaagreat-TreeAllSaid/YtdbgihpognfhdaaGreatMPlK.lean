/- Trees in a program: the keys of a node; whether a key is low enough. -/
import Derived.Test.YtdbgihpognfhdaaGreatMHdP
import Derived.Test.YtdbgihpognfhdaaGreatMTrX
import Derived.Test.YtdbgihpognfhdaaGreatMSlB
import Derived.Handy
import Derived.BigQuiet
import Derived.Deep.QuietTactic
import Derived.Test.YtdbgihpognfhdaaGreatMRefN
namespace Go.Proofs.YtdbgihpognfhdaaGreat.Sl.Nd
open Go Go.RowKit Go.By
def KbRow (w0 w : World) (v : Value) (ks : List (List Nat)) : Prop :=
  ∃ cs : List Value, cs.length = ks.length ∧ w.ownsRow w0.heap.size 26 1 v ks.length cs ∧ ∀ j (h : j < ks.length) (h' : j < cs.length), Bytes w0 cs[j] ks[j]
theorem KbRow.at_ {w0 w : World} {v : Value} {ks : List (List Nat)} (h : KbRow w0 w v ks) (hb : Below w0.heap.size w0 w) : ∃ p cap, v = .slice p ks.length cap ∧ RowAt KBytes w p cap ks := by
  obtain ⟨cs, h1, h2, h3⟩ := h
  obtain ⟨p, cap, rfl, q1, q2, q3⟩ := owns_at h2 (by decide)
  refine ⟨p, cap, rfl, q1, q2, fun j hj => ?_⟩
  have hj' : j < cs.length := by omega
  obtain ⟨g, rfl, c0⟩ := q3 j cs[j] (List.getElem?_eq_getElem hj')
  refine ⟨g, 0, [cs[j]], rfl, fun i hi => ?_, cs[j], rfl, (h3 j hj hj').below hb⟩
  match i, hi with
  | 0, _ => simpa [KBytes] using c0
theorem KbRow.shape {w0 w : World} {v : Value} {ks : List (List Nat)} {k : Nat} (h : KbRow w0 w v ks) (hl : ks.length = k) : ∃ p c, v = .slice p k c := by
  obtain ⟨cs, _, ho, _⟩ := h
  rw [hl] at ho
  obtain ⟨p, c, h, -⟩ := owns_at ho (by decide)
  exact ⟨p, c, h⟩
theorem KbRow.push {w0 w : World} {v a : Value} {ks : List (List Nat)} {k : List Nat} (h : KbRow w0 w v ks) (hn : ks.length ≤ 1000000) (hB : Below w0.heap.size w0 w) (ha : Bytes w0 a k) :
    ∃ p' c' w', (Builtin.append_ #[36, 36] 36 #[v, .slice (some ⟨w.heap.size, 0, none⟩) 1 1]).run Tryz.prog (w.alloc (.cells #[a] 26)) = .ok (.slice p' (ks.length + 1) c') w' ∧ KbRow w0 w' (.slice p' (ks.length + 1) c') (ks ++ [k]) ∧ Below w0.heap.size w0 w' := by
  obtain ⟨cs, h1, h2, h3⟩ := h
  obtain ⟨i, hi, hz, hs, hby⟩ := info_row
  obtain ⟨pa, ca, rfl, -⟩ := ha.any
  obtain ⟨v', w', hr, ho, hg⟩ := run_append_grows (P := Tryz.prog) (w := w.alloc (.cells #[.slice pa k.length ca] 26)) 36 (t := 36) (e := 26) (by kernel_rfl) hi hz hs hby rfl (by decide) w0.heap.size v ks.length cs (h2.alloc _) w.heap.size 0 1 1 [.slice pa k.length ca] rfl (by
    intro j u hu
    rw [Nat.zero_add]
    have := cells_of (heap_alloc_new w (.cells #[.slice pa k.length ca] 26)) j
    rw [this]
    simpa using hu) (by simp [Value.oneCell']) (by unfold maxLen; omega) (by omega) (by have := hB.size; simp; omega)
  have hga := (Grows.alloc w v (.cells #[.slice pa k.length ca] 26)).trans hg
  obtain ⟨p', c', rfl, -⟩ := owns_at ho (by decide)
  refine ⟨p', c', w', hr, ⟨cs ++ [.slice pa k.length ca], by simp [h1], by simpa using ho, fun j hj hj' => ?_⟩, hga.below hB hB.size (fun j hj => (h2.lt j hj).1)⟩
  by_cases hlt : j < ks.length
  · rw [List.getElem_append_left hlt, List.getElem_append_left (by omega)]
    exact h3 j hlt (by omega)
  · obtain rfl : j = ks.length := by simp at hj; omega
    rw [List.getElem_append_right (Nat.le_refl _), List.getElem_append_right (by omega)]
    simp only [h1, Nat.sub_self, List.getElem_singleton]
    exact ha
theorem made_keys (w : World) : (Instr.makeSlice 36 (.int .i64 0) (.int .i64 8)).run Tryz.prog w = .ok (.slice (some ⟨w.heap.size, 0, none⟩) 0 8) (w.alloc (.cells #[.slice none 0 0, .slice none 0 0, .slice none 0 0, .slice none 0 0, .slice none 0 0, .slice none 0 0, .slice none 0 0, .slice none 0 0] 26)) := by
  obtain ⟨i, hi, hz, hs, hby⟩ := info_row
  have h := run_make (P := Tryz.prog) (w := w) 36 26 i (.slice none 0 0) (by kernel_rfl) hi hz .i64 .i64 0 8 (by omega) (by omega) (by rw [hby]; omega) (by omega)
  have e : madeCells (Value.slice none 0 0).cells ((8 : Int).toNat * 1) = #[.slice none 0 0, .slice none 0 0, .slice none 0 0, .slice none 0 0, .slice none 0 0, .slice none 0 0, .slice none 0 0, .slice none 0 0] := by kernel_rfl
  rw [h, hs, e]
  rfl
def KeysTold (w : World) (n : Nd) (z : Ending) (w' : World) : Prop := ∃ p c, z = .returned (.slice p (keysN n).length c) ∧ RowAt KBytes w' p c (keysN n) ∧ Below w.heap.size w w'
def KyLoop (w0 _w : World) (its : List NIt) (x i : Value) (wr : World) : Prop :=
  ∃ k : Nat, k ≤ its.length ∧ i = .int .i64 k ∧ KbRow w0 wr x ((its.take k).map (·.k)) ∧ Below w0.heap.size w0 wr
set_option maxRecDepth 100000 in
set_option maxHeartbeats 1000000 in
theorem keysOf_any {w : World} {v : Value} {n : Nd} {pi pk pd : Option Addr} {ci ck cd : Nat} (h : IsNd w v n pi ci pk ck pd cd) (h8 : n.its.length ≤ 8) :
    Calls Tryz.prog 73 #[v] w (KeysTold w n) := by
  have hv := h.val
  subst hv
  obtain ⟨W, hW⟩ : ∃ W, W = w.alloc (.cells #[.bool n.leaf, .slice pi n.its.length ci, .slice pk n.ks.length ck, .slice pd n.kids.length cd] 38) := ⟨_, rfl⟩
  have hb : Below w.heap.size w W := by rw [hW]; exact (Below.refl w.heap.size w).alloc (Nat.le_refl _) _
  have hx : NdAt W w.heap.size n pi ci pk ck pd cd := by rw [hW]; exact NdAt.new ..
  have HK := Lib.hid (h.ks.below hb)
  have HI := Lib.hid (h.its.below hb)
  have HB := Lib.hid hb; have HX := Lib.hid hx; have HW := Lib.hid hW; have H8 := Lib.hid h8
  have HC : Hid (keysN n = if n.leaf = true then n.its.map (·.k) else n.ks) := rfl
  clear h hW hb hx h8
  obtain ⟨c0, c1, c2, c3⟩ := HX.out.cells
  cases hlf : n.leaf with
  | false =>
    have E : Hid (keysN n = n.ks) := by unfold Hid; rw [HC.out, hlf]; rfl
    rw [hlf] at c0 HW
    have HF : Hid (KeysTold w n (.returned (.slice pk n.ks.length ck)) W) := ⟨pk, ck, by rw [E.out], by rw [E.out]; exact HK.out, HB.out⟩
    generalize n.ks.length = NK at *
    go_enter Tryz.func73, Tryz.ntmps73
    go_wp2
    rw [← HW.out]
    go_ret
    exact HF.out
  | true =>
    have E : Hid (keysN n = n.its.map (·.k)) := by unfold Hid; rw [HC.out, if_pos hlf]
    obtain ⟨N, hN⟩ : ∃ N, N = n.its.length := ⟨_, rfl⟩
    have HN := Lib.hid hN
    have hN8 : (N : Int) ≤ 8 := by have := H8.out; omega
    have hmade : KyLoop W W n.its (.slice (some ⟨W.heap.size, 0, none⟩) 0 8) (.int .i64 (0 : Nat)) (W.alloc (.cells #[.slice none 0 0, .slice none 0 0, .slice none 0 0, .slice none 0 0, .slice none 0 0, .slice none 0 0, .slice none 0 0, .slice none 0 0] 26)) :=
      ⟨0, Nat.zero_le _, rfl, ⟨[], rfl, World.ownsRow_made W _ 8 (Nat.le_refl _) (by decide) rfl, fun j hj => absurd hj (Nat.not_lt_zero _)⟩, (Below.refl _ _).alloc (Nat.le_refl _) _⟩
    have HM := Lib.hid hmade
    rw [hlf] at c0 HW
    rw [← hN] at c1 HW ⊢
    have HZ : Hid (W.heap.size = w.heap.size + 1) := by unfold Hid; rw [HW.out]; simp
    have hmk := made_keys
    clear hN hmade
    go_enter Tryz.func73, Tryz.ntmps73
    go_wp2
    clear hmk
    rw [← HW.out, ← HZ.out]
    go_loopw [3, 15] (fun x i w' => KyLoop W W n.its x i w') (fun _ i _ => N - (intOf i).toNat)
    case atStart => exact HM.out
    case round =>
      clear HM
      obtain ⟨k, hk, rfl, hrow, hB⟩ := hrel
      by_cases hlt : k < N
      · have hkl : k < n.its.length := by rw [← HN.out]; exact hlt
        obtain ⟨lb, lo, rfl, hat⟩ := HI.out.some (by omega)
        obtain ⟨cs, hc, a, b, rfl, ha, hb⟩ := hat k hkl
        obtain ⟨e0, e1⟩ := (hc.below hB).two
        simp only [KItem] at e0 e1
        have hnx : (n.its.take (k + 1)).map (·.k) = (n.its.take k).map (·.k) ++ [n.its[k].k] := by rw [List.take_succ_eq_append_getElem hkl, List.map_append]; rfl
        have hlen : ((n.its.take k).map (·.k)).length = k := by rw [List.length_map, List.length_take]; omega
        obtain ⟨qa, ca, rfl, -⟩ := ha.any
        obtain ⟨qb, cb, rfl, -⟩ := hb.any
        obtain ⟨px, cx, rfl⟩ := hrow.shape hlen
        obtain ⟨cs', r1, r2, r3⟩ := hrow
        have hrow2 : KbRow W (wr.alloc (.cells #[.slice qa n.its[k].k.length ca, .slice qb n.its[k].v.length cb] 49)) (.slice px k cx) ((n.its.take k).map (·.k)) := ⟨cs', r1, r2.alloc _, r3⟩
        obtain ⟨p', c', w', hrun, hr', hb'⟩ := hrow2.push (by rw [hlen]; omega) (hB.alloc hB.size _) ha
        rw [hlen] at hrun hr'
        rw [World.size_alloc] at hrun
        have HNX : Hid (KyLoop W W n.its (.slice p' (k + 1) c') (.int .i64 (k + 1 : Nat)) w') := ⟨k + 1, by omega, rfl, by rw [hnx]; exact hr', hb'⟩
        have HRUN := Lib.hid hrun
        have HLT := Lib.hid hlt
        generalize n.its[k].k.length = l1 at *
        generalize n.its[k].v.length = l2 at *
        clear hrun hr' hb' hrow2 r1 r2 r3 ha hb hc hat hB hkl hnx hlen hk
        go_wp2_with (at_builtin; refine Lib.wpList_append_run _ rfl (.tmp 19) (.tmp 22) 36 36 rfl _ _ rfl rfl _ w' HRUN.out ?_)
        go_roundw
        case rel => exact HNX.out
        case measure => simp [intOf]; have := HLT.out; omega
      · have hkN : k = N := by have := HN.out; omega
        obtain ⟨p, c, rfl, hr⟩ := hrow.at_ hB
        rw [List.take_of_length_le (by rw [← HN.out]; omega)] at hr ⊢
        rw [← E.out] at hr ⊢
        have hl : (keysN n).length = N := by rw [E.out, List.length_map, ← HN.out]
        have HF2 : Hid (KeysTold w n (.returned (.slice p N c)) wr) := ⟨p, c, by rw [hl], hr, HB.out.trans (hB.mono HB.out.size)⟩
        rw [hl]
        clear hrow hB hlt hk hr hl
        subst hkN
        go_wp2
        go_ret
        exact HF2.out
structure PlAt (w : World) (v : Value) (deep : Nat) (least bound : List Nat) (a b : Value) : Prop where
  val : v = .agg #[.int .i64 (deep : Nat), a, b]
  least : Bytes w a least
  bound : Bytes w b bound
theorem PlAt.below {w w' : World} {v : Value} {deep : Nat} {least bound : List Nat} {a b : Value} (h : PlAt w v deep least bound a b) (hb : Below w.heap.size w w') : PlAt w' v deep least bound a b := ⟨h.val, h.least.below hb, h.bound.below hb⟩
set_option maxRecDepth 100000 in
theorem isAbove_any {w : World} {v kv a b : Value} {deep : Nat} {least bound k : List Nat} (h : PlAt w v deep least bound a b) (hk : Bytes w kv k) :
    Calls Tryz.prog 95 #[v, kv] w fun e w' => e = .returned (.bool (isLow k bound)) ∧ Below w.heap.size w w' := by
  have hv := h.val
  subst hv
  have hbo := (Below.refl w.heap.size w).alloc (Nat.le_refl _) (.cells #[.int .i64 (deep : Nat), a, b] 98)
  have HC := Lib.hid (compare_any kv b k bound _ (hk.below hbo) (h.bound.below hbo))
  have HE : Hid (decide (cmpN k bound < 0) = lessN k bound) := cmpN_less hk.small h.bound.small
  have HL : Hid (isLow k bound = (bound.isEmpty || lessN k bound)) := rfl
  have hbl : (bound.isEmpty) = decide (bound.length = 0) := by cases bound <;> simp
  have hb9 : (bound.length : Int) ≤ 9223372036854775807 := by have := h.bound.short; unfold maxLen at this; omega
  obtain ⟨qa, ca, rfl, -⟩ := h.least.any
  obtain ⟨qb, cb, rfl, -⟩ := h.bound.any
  obtain ⟨qk, ck, rfl, -⟩ := hk.any
  rw [hbl] at HL
  rw [← HE.out] at HL
  have HB := Lib.hid hbo
  clear h hk hbo hbl HE
  generalize cmpN k bound = x at *
  generalize k.length = l1 at *
  generalize bound.length = l2 at *
  generalize least.length = l3 at *
  rw [HL.out]
  clear HL
  by_cases h0 : l2 = 0
  · subst h0
    go_enter Tryz.func95, Tryz.ntmps95
    go_wp2
    go_ret
    exact ⟨by simp, HB.out⟩
  · have h0' : ((l2 : Int) == 0) = false := by simp; omega
    have h1 : decide (l2 = 0) = false := decide_eq_false h0
    rw [h1]
    clear h1 h0
    go_enter Tryz.func95, Tryz.ntmps95
    go_wp2_with fail
    refine HC.out.mono ?_
    rintro e w1 ⟨rfl, rfl⟩
    go_wp2
    go_ret
    exact ⟨by simp, HB.out⟩
end Go.Proofs.YtdbgihpognfhdaaGreat.Sl.Nd
/- Trees in a program: whether a node keeps to its place; the place of a kid; findings. -/
namespace Go.By
open Go Go.RowKit
theorem keeps_root {n : Nd} {least bound : List Nat} : keeps n true least bound = true := rfl
theorem keeps_few {n : Nd} {least bound : List Nat} (h : (keysN n).length < 4) : keeps n false least bound = false := by
  unfold keeps; rw [decide_eq_false (by omega)]; rfl
theorem keeps_many {n : Nd} {least bound : List Nat} {m : Nat} (h : (keysN n).length = m + 1) (h4 : 4 ≤ (keysN n).length) :
    keeps n false least bound = (decide ((keysN n)[0]'(by omega) = least) && isLow ((keysN n)[m]'(by omega)) bound) := by
  unfold keeps
  rw [decide_eq_true h4, Bool.false_or, Bool.true_and]
  have e2 : (keysN n).getLast?.getD [] = (keysN n)[m]'(by omega) := by
    have h1 : (keysN n).length - 1 = m := by omega
    have h2 : (keysN n)[(keysN n).length - 1]? = (keysN n)[m]? := by rw [h1]
    rw [List.getLast?_eq_getElem?, h2, List.getElem?_eq_getElem (by omega)]; rfl
  rw [e2]
  congr 1
  rw [decide_eq_decide, List.head?_eq_getElem?, List.getElem?_eq_getElem (by omega), Option.some.injEq]
end Go.By
namespace Go.Proofs.YtdbgihpognfhdaaGreat.Sl.Nd
open Go Go.RowKit Go.By
def PlCells (w : World) (g : Nat) (deep : Nat) (a b : Value) : Prop := w.heap[g]? = some (.cells #[.int .i64 (deep : Nat), a, b] 98 (0, 0))
set_option maxRecDepth 100000 in
set_option maxHeartbeats 40000000 in
theorem mayHave_any {w : World} {v nv a b : Value} {deep : Nat} {least bound : List Nat} {n : Nd} {pi pk pd : Option Addr} {ci ck cd : Nat} (h : PlAt w v deep least bound a b) (hn : IsNd w nv n pi ci pk ck pd cd) (h8 : n.its.length ≤ 8) :
    Calls Tryz.prog 66 #[v, nv] w (TruthTold w (keeps n (decide (deep = 1)) least bound)) := by
  obtain ⟨X, hX⟩ : ∃ X, X = keeps n (decide (deep = 1)) least bound := ⟨_, rfl⟩
  rw [← hX]
  have HX := Lib.hid hX
  clear hX
  have hv := h.val
  have hnv := hn.val
  subst hv hnv
  obtain ⟨W0, hW0⟩ : ∃ W, W = w.alloc (.cells #[.int .i64 (deep : Nat), a, b] 98) := ⟨_, rfl⟩
  obtain ⟨W, hW⟩ : ∃ W, W = W0.alloc (.cells #[.bool n.leaf, .slice pi n.its.length ci, .slice pk n.ks.length ck, .slice pd n.kids.length cd] 38) := ⟨_, rfl⟩
  have hb0 : Below w.heap.size w W0 := by rw [hW0]; exact (Below.refl w.heap.size w).alloc (Nat.le_refl _) _
  have hb1 : Below W0.heap.size W0 W := by rw [hW]; exact (Below.refl _ _).alloc (Nat.le_refl _) _
  have hb : Below w.heap.size w W := hb0.trans (hb1.mono hb0.size)
  have hz0 : W0.heap.size = w.heap.size + 1 := by rw [hW0]; simp
  have hpc : PlCells W w.heap.size deep a b := (hb1.block _ (by omega)).trans (by rw [hW0]; exact heap_alloc_new w _)
  have hnd : NdAt W (w.heap.size + 1) n pi ci pk ck pd cd := by rw [hW, ← hz0]; exact NdAt.new ..
  have HKY := Lib.hid (keysOf_any (hn.below hb) h8)
  have HWW : Hid (W = (w.alloc (.cells #[.int .i64 (deep : Nat), a, b] 98)).alloc (.cells #[.bool n.leaf, .slice pi n.its.length ci, .slice pk n.ks.length ck, .slice pd n.kids.length cd] 38)) := by unfold Hid; rw [hW, hW0]
  have HP := Lib.hid (h.below hb)
  have HB := Lib.hid hb; have HPC := Lib.hid hpc; have HND := Lib.hid hnd
  obtain ⟨qa, ca, rfl, -⟩ := h.least.any
  obtain ⟨qb, cb, rfl, -⟩ := h.bound.any
  clear h hn h8 hW hW0 hb0 hb1 hb hz0 hpc hnd
  obtain ⟨n0, n1, n2, n3⟩ := HND.out.cells
  go_enter Tryz.func66, Tryz.ntmps66
  go_wp2_with fail
  rw [← HWW.out]
  refine HKY.out.mono ?_
  rintro e w1 ⟨p, c, rfl, hr, hb1⟩
  have HB1 : Hid (Below w.heap.size w w1) := HB.out.trans (hb1.mono HB.out.size)
  have hpc1 : PlCells w1 w.heap.size deep (.slice qa least.length ca) (.slice qb bound.length cb) := (hb1.block _ (Array.getElem?_eq_some_iff.1 HPC.out).1).trans HPC.out
  have HP1 := Lib.hid (HP.out.below hb1)
  have c0 := cells_of hpc1 0
  have c1 := cells_of hpc1 1
  have c2 := cells_of hpc1 2
  simp only [List.getElem?_toArray, List.getElem?_cons_zero, List.getElem?_cons_succ] at c0 c1 c2
  have HR := Lib.hid hr
  have hL9 : ((keysN n).length : Int) ≤ 9223372036854775807 := by have := hr.le; have := hr.most; unfold maxLen at this; omega
  clear hr hb1 hpc1 HPC HP HKY n0 n1 n2 n3
  by_cases hd : deep = 1
  · have HF : Hid (TruthTold w X (.returned (.bool true)) w1.drew) := ⟨by rw [HX.out, decide_eq_true hd, keeps_root], HB1.out.drew⟩
    subst hd
    go_wp2
    go_region
    go_wp2
    go_ret
    exact HF.out
  · have hd' : ((deep : Int) == 1) = false := by simp; omega
    have HX2 : Hid (X = keeps n false least bound) := by unfold Hid; rw [HX.out, decide_eq_false hd]
    obtain ⟨L, hL⟩ : ∃ L, L = (keysN n).length := ⟨_, rfl⟩
    by_cases h4 : L < 4
    · have HF : Hid (TruthTold w X (.returned (.bool false)) w1.drew) := ⟨by rw [HX2.out, keeps_few (by omega)], HB1.out.drew⟩
      rw [← hL] at hL9 ⊢
      have h4' : decide ((4 : Int) ≤ L) = false := decide_eq_false (by omega)
      clear hL
      go_wp2
      go_region
      go_wp2
      go_ret
      exact HF.out
    · obtain ⟨m, hm⟩ : ∃ m, (keysN n).length = m + 1 := ⟨L - 1, by omega⟩
      have HKE := Lib.hid (keeps_many (least := least) (bound := bound) hm (by omega))
      obtain ⟨lb, lo, rfl, hat⟩ := HR.out.some (by omega)
      obtain ⟨cs, hc, x0, rfl, hx0⟩ := hat 0 (by omega)
      obtain ⟨cs', hc', x1, rfl, hx1⟩ := hat m (by omega)
      have e0 := hc.one
      have e1 := hc'.one
      simp only [KBytes, Nat.mul_one, Nat.add_zero] at e0 e1
      obtain ⟨q0, k0, rfl, -⟩ := hx0.any
      obtain ⟨q1, k1, rfl, -⟩ := hx1.any
      have HCS : Hid (∀ W : World, Below w1.heap.size w1 W → W.cell? ⟨w.heap.size, 0, none⟩ = some (.int .i64 (deep : Nat)) ∧ W.cell? ⟨w.heap.size, 1, none⟩ = some (.slice qa least.length ca) ∧ W.cell? ⟨w.heap.size, 2, none⟩ = some (.slice qb bound.length cb) ∧ W.cell? ⟨lb, lo, none⟩ = some (.slice q0 ((keysN n)[0]'(by omega)).length k0) ∧ W.cell? ⟨lb, lo + m, none⟩ = some (.slice q1 ((keysN n)[m]'(by omega)).length k1)) := fun W hW =>
        ⟨(hW.cell (p := ⟨w.heap.size, 0, none⟩) (block_lt_of_cell c0)).trans c0, (hW.cell (p := ⟨w.heap.size, 1, none⟩) (block_lt_of_cell c1)).trans c1, (hW.cell (p := ⟨w.heap.size, 2, none⟩) (block_lt_of_cell c2)).trans c2, (hW.cell (p := ⟨lb, lo, none⟩) (block_lt_of_cell e0)).trans e0, (hW.cell (p := ⟨lb, lo + m, none⟩) (block_lt_of_cell e1)).trans e1⟩
      have HEQ : Hid (∀ W : World, Below w1.heap.size w1 W → Calls Tryz.prog 94 #[.slice q0 ((keysN n)[0]'(by omega)).length k0, .slice qa least.length ca] W fun e w' => e = .returned (.bool (decide ((keysN n)[0]'(by omega) = least))) ∧ W = w') := fun W hb =>
        (equal_any _ _ _ _ W (hx0.below hb) (HP1.out.least.below hb)).mono fun e w' ⟨h1, h2⟩ => ⟨h1, by first | exact h2 | exact h2.symm⟩
      have HAB : Hid (∀ W : World, Below w1.heap.size w1 W → Calls Tryz.prog 95 #[.agg #[.int .i64 (deep : Nat), .slice qa least.length ca, .slice qb bound.length cb], .slice q1 ((keysN n)[m]'(by omega)).length k1] W fun e w' => e = .returned (.bool (isLow ((keysN n)[m]'(by omega)) bound)) ∧ Below W.heap.size W w') := fun W hb => isAbove_any (HP1.out.below hb) (hx1.below hb)
      clear hc hc' hx0 hx1 hat HR HP1
      generalize (keysN n)[0]'(by omega) = K0 at *
      generalize (keysN n)[m]'(by omega) = K1 at *
      have hm' : (L : Int) - 1 = m := by omega
      have hmL : (m : Int) < L := by omega
      have h4' : decide ((4 : Int) ≤ L) = true := decide_eq_true (by omega)
      have h4n : 0 < L := by omega
      have h0L : (0 : Int) < L := by omega
      rw [← hL] at hL9 ⊢
      clear hL hm h4
      generalize K0.length = l0 at *
      generalize K1.length = l1 at *
      generalize least.length = l2 at *
      generalize bound.length = l3 at *
      cases hq : decide (K0 = least) with
      | false =>
        rw [hq] at HKE HEQ
        have HF : Hid (∀ W, Below w.heap.size w W → TruthTold w X (.returned (.bool false)) W) := fun W hW => ⟨by rw [HX2.out, HKE.out]; rfl, hW⟩
        clear HKE hq
        go_wp2_with fail
        rename_i Kc hKc
        refine wp_region_left (by kernel_rfl)
          [.is (.pointer (some ⟨w.heap.size, 0, none⟩)), .is (.int .i64 (deep : Nat)), .is (.bool false), .is (.bool false), .is (.slice (some ⟨lb, lo, none⟩) L c), .is (.int .i64 (L : Nat)), .is (.bool true), .is (.bool true), .is (.slice (some ⟨lb, lo, none⟩) L c), .is (.pointer (some ⟨lb, lo, none⟩)), .is (.slice q0 l0 k0), .is (.pointer (some ⟨w.heap.size, 1, none⟩)), .is (.slice qa l2 ca), .is (.bool false), .is (.bool false), .is (.bool false), .is undef, .is undef, .is undef, .is undef, .is undef, .is undef, .is undef, .is undef, .is (.bool false), .is (.bool false), .is (.bool false)]
          [[],[0],[1],[2],[3],[3,4],[3,5],[3,6],[7],[7,8],[7,9],[7],[7,11],[7,10,12],[3,7,13],[3,14],[15],[15],[15],[15,18],[15,19],[15,17,20],[15,21],[15,16,22],[3,15,23],[3,24],[25]] (by kernel_rfl) (by rfl) ?_ ?_
        · repeat' (first | exact LeftOps.nil | refine LeftOps.cons ?_ ?_)
          all_goals (intro wz hwz; clear hKc; try ((repeat (refine withLeft_is rfl rfl ?_)); (with_reducible refine withLeft_nil ?_); (try simp only [Act.put, arr0, arr1, arr2]); (try first | refine lft_run rfl rfl ?_ | refine lft_want rfl rfl rfl rfl ?_)))
          · unfold LftRun; go_wp2; exact lend
          · obtain ⟨c0, c1, c2, e0, e1⟩ := HCS.out wz hwz; unfold LftRun; go_wp2; exact lend
          · unfold LftRun; go_wp2; exact lend
          · exact lmv
          · exact lmv
          · unfold LftRun; go_wp2; exact lend
          · unfold LftRun; go_wp2; exact lend
          · exact lmv
          · exact lmv
          · unfold LftRun; go_wp2; exact lend
          · obtain ⟨c0, c1, c2, e0, e1⟩ := HCS.out wz hwz; unfold LftRun; go_wp2; exact lend
          · unfold LftRun; go_wp2; exact lend
          · obtain ⟨c0, c1, c2, e0, e1⟩ := HCS.out wz hwz; unfold LftRun; go_wp2; exact lend
          · unfold LftRun; go_wp2_with fail; refine (HEQ.out wz hwz).mono ?_; rintro e wq ⟨rfl, rfl⟩; go_wp2; exact lend
          · exact lpk
          · exact lmv
          · exact lsk
          · exact lsk
          · exact lsk
          · exact lsk
          · exact lsk
          · exact lsk
          · exact lsk
          · exact lsk
          · exact lpk
          · exact lpk
          · exact las
        intro wz hwz
        refine le8 (le8 (le8 (LeftEnd.is (LeftEnd.is (LeftEnd.is (LeftEnd.nil ?_))))))
        simp only [Act.put, arr0, arr1, arr2]
        refine hKc _ _ ?_
        clear hKc Kc
        go_wp2
        go_ret
        exact HF.out _ (HB1.out.trans (hwz.mono HB1.out.size))
      | true =>
        rw [hq] at HKE HEQ
        have HF : Hid (∀ W, Below w.heap.size w W → TruthTold w X (.returned (.bool (isLow K1 bound))) W) := fun W hW => ⟨by rw [HX2.out, HKE.out, Bool.true_and], hW⟩
        clear HKE hq
        go_wp2_with fail
        rename_i Kc hKc
        refine wp_region_left (by kernel_rfl)
          [.is (.pointer (some ⟨w.heap.size, 0, none⟩)), .is (.int .i64 (deep : Nat)), .is (.bool false), .is (.bool false), .is (.slice (some ⟨lb, lo, none⟩) L c), .is (.int .i64 (L : Nat)), .is (.bool true), .is (.bool true), .is (.slice (some ⟨lb, lo, none⟩) L c), .is (.pointer (some ⟨lb, lo, none⟩)), .is (.slice q0 l0 k0), .is (.pointer (some ⟨w.heap.size, 1, none⟩)), .is (.slice qa l2 ca), .is (.bool true), .is (.bool true), .is (.bool true), .is (.agg #[.int .i64 (deep : Nat), .slice qa l2 ca, .slice qb l3 cb]), .is (.slice (some ⟨lb, lo, none⟩) L c), .is (.slice (some ⟨lb, lo, none⟩) L c), .is (.int .i64 (L : Nat)), .is (.int .i64 (m : Nat)), .is (.pointer (some ⟨lb, lo + m, none⟩)), .is (.slice q1 l1 k1), .is (.bool (isLow K1 bound)), .is (.bool (isLow K1 bound)), .is (.bool (isLow K1 bound)), .is (.bool (isLow K1 bound))]
          [[],[0],[1],[2],[3],[3,4],[3,5],[3,6],[7],[7,8],[7,9],[7],[7,11],[7,10,12],[3,7,13],[3,14],[15],[15],[15],[15,18],[15,19],[15,17,20],[15,21],[15,16,22],[3,15,23],[3,24],[25]] (by kernel_rfl) (by rfl) ?_ ?_
        · repeat' (first | exact LeftOps.nil | refine LeftOps.cons ?_ ?_)
          all_goals (intro wz hwz; clear hKc; try ((repeat (refine withLeft_is rfl rfl ?_)); (with_reducible refine withLeft_nil ?_); (try simp only [Act.put, arr0, arr1, arr2]); (try first | refine lft_run rfl rfl ?_ | refine lft_want rfl rfl rfl rfl ?_)))
          · unfold LftRun; go_wp2; exact lend
          · obtain ⟨c0, c1, c2, e0, e1⟩ := HCS.out wz hwz; unfold LftRun; go_wp2; exact lend
          · unfold LftRun; go_wp2; exact lend
          · exact lmv
          · exact lmv
          · unfold LftRun; go_wp2; exact lend
          · unfold LftRun; go_wp2; exact lend
          · exact lmv
          · exact lmv
          · unfold LftRun; go_wp2; exact lend
          · obtain ⟨c0, c1, c2, e0, e1⟩ := HCS.out wz hwz; unfold LftRun; go_wp2; exact lend
          · unfold LftRun; go_wp2; exact lend
          · obtain ⟨c0, c1, c2, e0, e1⟩ := HCS.out wz hwz; unfold LftRun; go_wp2; exact lend
          · unfold LftRun; go_wp2_with fail; refine (HEQ.out wz hwz).mono ?_; rintro e wq ⟨rfl, rfl⟩; go_wp2; exact lend
          · exact lpk
          · exact lmv
          · obtain ⟨c0, c1, c2, e0, e1⟩ := HCS.out wz hwz; unfold LftRun; go_wp2; exact lend
          · exact lmv
          · exact lmv
          · unfold LftRun; go_wp2; exact lend
          · unfold LftRun; go_wp2; exact lend
          · unfold LftRun; go_wp2; exact lend
          · obtain ⟨c0, c1, c2, e0, e1⟩ := HCS.out wz hwz; unfold LftRun; go_wp2; exact lend
          · unfold LftRun; go_wp2_with fail; refine (HAB.out wz hwz).mono ?_; rintro e wq ⟨rfl, hbq⟩; go_wp2; exact ⟨rfl, rfl, rfl, hbq⟩
          · exact lpk
          · exact lpk
          · exact las
        intro wz hwz
        refine le8 (le8 (le8 (LeftEnd.is (LeftEnd.is (LeftEnd.is (LeftEnd.nil ?_))))))
        simp only [Act.put, arr0, arr1, arr2]
        refine hKc _ _ ?_
        clear hKc Kc
        go_wp2
        go_ret
        exact HF.out _ (HB1.out.trans (hwz.mono HB1.out.size))
end Go.Proofs.YtdbgihpognfhdaaGreat.Sl.Nd
/- Trees in a program: the place of a kid; findings put together. -/
namespace Go.Proofs.YtdbgihpognfhdaaGreat.Sl.Nd
open Go Go.RowKit Go.By
def KidPl (w : World) (p : Option Addr) (i L : Nat) (bv a b : Value) : Prop := ∃ lb lo, p = some ⟨lb, lo, none⟩ ∧ w.cell? ⟨lb, lo + i, none⟩ = some a ∧ (if i + 1 < L then w.cell? ⟨lb, lo + (i + 1), none⟩ = some b else b = bv)
def nextB (ks : List (List Nat)) (i : Nat) (bound : List Nat) : List Nat := if h : i + 1 < ks.length then ks[i + 1] else bound
set_option maxRecDepth 100000 in
theorem or_any {w : World} {g : Nat} (h0 : w.cell? ⟨g, 0, none⟩ = some (.int .i64 0)) (h1 : w.cell? ⟨g, 1, none⟩ = some (.int .i64 0)) :
    Calls Tryz.prog 96 #[.slice (some ⟨g, 0, none⟩) 2 2] w fun e w' => e = .returned (.int .i64 0) ∧ w = w' := by
  go_enter Tryz.func96, Tryz.ntmps96
  go_wp2
  go_loopw [8] (fun i W => W = w ∧ ∃ k : Nat, k ≤ 2 ∧ i = .int .i64 k) (fun i _ => 2 - (intOf i).toNat)
  case atStart => exact ⟨rfl, 0, by omega, rfl⟩
  case round =>
    obtain ⟨rfl, k, hk, rfl⟩ := hrel
    match k, hk with
    | 0, _ =>
      go_wp2
      go_roundw
      case rel => exact ⟨trivial, 1, by omega, rfl⟩
      case measure => simp [intOf]
    | 1, _ =>
      go_wp2
      go_roundw
      case rel => exact ⟨trivial, 2, by omega, rfl⟩
      case measure => simp [intOf]
    | 2, _ =>
      go_wp2
      go_ret
      exact ⟨rfl, rfl⟩
def ErrRow (v : Value) (w : World) : Prop := ∃ g, v = .slice (some ⟨g, 0, none⟩) 2 2 ∧ w.cell? ⟨g, 0, none⟩ = some (.int .i64 0) ∧ w.cell? ⟨g, 1, none⟩ = some (.int .i64 0)
theorem ErrRow.lasts (v : Value) (w w' : World) (h : ErrRow v w) (hb : Below w.heap.size w w') : ErrRow v w' := by
  obtain ⟨g, rfl, h0, h1⟩ := h
  exact ⟨g, rfl, (hb.cell (p := ⟨g, 0, none⟩) (block_lt_of_cell h0)).trans h0, (hb.cell (p := ⟨g, 1, none⟩) (block_lt_of_cell h1)).trans h1⟩
theorem ErrRow.new (w : World) : ErrRow (.slice (some ⟨w.heap.size, 0, none⟩) 2 2) (w.alloc (.cells #[.int .i64 0, .int .i64 0] 31)) := by
  have h := heap_alloc_new w (.cells #[.int .i64 0, .int .i64 0] 31)
  exact ⟨_, rfl, cells_of h 0, cells_of h 1⟩
def andBad (d h : Nat) (bad : Bool) : Bool := (decide (d ≠ h) && decide (0 < min d h)) || bad
def noOf (bad : Bool) : Int := if bad then 2 else 0
def FnTold (w : World) (d : Nat) (bad : Bool) (z : Ending) (w' : World) : Prop := z = .returned (.agg #[.int .i64 (d : Nat), .int .i64 (noOf bad)]) ∧ Below w.heap.size w w'
theorem set2 {w : World} {A : Nat} {x0 x1 : Value} {T : TypeId} (h : w.heap[A]? = some (.cells #[x0, x1] T (0, 0))) (a b : Value) :
    ((w.setCell ⟨A, 0, none⟩ a).setCell ⟨A, 1, none⟩ b).heap[A]? = some (.cells #[a, b] T (0, 0)) :=
  heap_setCell_same _ A 1 _ _ b (heap_setCell_same _ A 0 _ _ a h)
theorem and_ret {tmps : Array Value} {w : World} {A : Nat} {cs : Array Value} (hp : tmps.getD 4 undef = .pointer (some ⟨A, 0, none⟩)) (hg : w.heap[A]? = some (.cells cs 95 (0, 0))) (hc : cs.size = 2) :
    (results Tryz.f69 tmps).run Tryz.prog w = .ok (.agg cs) w := by
  have hi : (Tryz.prog.info? 95).map (·.size) = some cs.size := by rw [hc]; kernel_rfl
  have hq : (Tryz.prog.underlying 95).map (fun d => match d with | .struct _ | .array _ _ => true | _ => false) = some true := by kernel_rfl
  obtain ⟨d, hu, hd⟩ := Option.map_eq_some_iff.1 hq
  exact results_cell_row (p := 4) (ty := 95) (by kernel_rfl) tmps w A 95 cs (0, 0) d hp hg hu (by cases d <;> simp_all) hi
theorem third_end (w : World) (o0 o1 o2 : Obj) : ((((w.alloc o0).alloc o1).alloc o2).heap[w.heap.size + 1 + 1]? = some o2) ∧ Below w.heap.size w (((w.alloc o0).alloc o1).alloc o2) :=
  ⟨allocs_at (os := [o0, o1, o2]) (w := w) (i := 2) rfl, allocs_below [o0, o1, o2] w⟩
set_option maxRecDepth 100000 in
set_option maxHeartbeats 40000000 in
theorem and_any {w : World} (d h : Nat) (bad : Bool) (hd : d < 1000) (hh : h < 1000) (hb0 : bad = true → h = 0) :
    Calls Tryz.prog 69 #[.agg #[.int .i64 (d : Nat), .int .i64 0], .agg #[.int .i64 (h : Nat), .int .i64 (noOf bad)]] w (FnTold w (if andBad d h bad = true then 0 else max d h) (andBad d h bad)) := by
  obtain ⟨X, hX⟩ : ∃ X : Int, X = noOf bad := ⟨_, rfl⟩
  rw [← hX]
  obtain ⟨W, hW⟩ : ∃ W, W = ((w.alloc (.cells #[.int .i64 (d : Nat), .int .i64 0] 95)).alloc (.cells #[.int .i64 (h : Nat), .int .i64 X] 95)).alloc (.cells #[.int .i64 0, .int .i64 0] 95) := ⟨_, rfl⟩
  have hWs : W = allocs w [.cells #[.int .i64 (d : Nat), .int .i64 0] 95, .cells #[.int .i64 (h : Nat), .int .i64 X] 95, .cells #[.int .i64 0, .int .i64 0] 95] := hW
  have g0 : W.heap[w.heap.size]? = some (.cells #[.int .i64 (d : Nat), .int .i64 0] 95 (0, 0)) := by rw [hWs]; exact allocs_at (i := 0) rfl
  have g1 : W.heap[w.heap.size + 1]? = some (.cells #[.int .i64 (h : Nat), .int .i64 X] 95 (0, 0)) := by rw [hWs]; exact allocs_at (i := 1) rfl
  have g2 : W.heap[w.heap.size + 2]? = some (.cells #[.int .i64 0, .int .i64 0] 95 (0, 0)) := by rw [hWs]; exact allocs_at (i := 2) rfl
  have hb : Below w.heap.size w W := by rw [hWs]; exact allocs_below _ _
  have a0 := cells_of g0 0
  have a1 := cells_of g0 1
  have b0 := cells_of g1 0
  have b1 := cells_of g1 1
  have d0 := cells_of g2 0
  have d1 := cells_of g2 1
  have f0 := free_of g2 0
  have f1 := free_of g2 1
  simp only [List.getElem?_toArray, List.getElem?_cons_zero, List.getElem?_cons_succ] at a0 a1 b0 b1 d0 d1
  have HW := Lib.hid hW
  have HSET : Hid (∀ (W' : World) (x y : Value), Below w.heap.size w W' → W'.heap[w.heap.size + 2]? = some (.cells #[.int .i64 0, .int .i64 0] 95 (0, 0)) → ((W'.setCell ⟨w.heap.size + 2, 0, none⟩ x).setCell ⟨w.heap.size + 2, 1, none⟩ y).heap[w.heap.size + 2]? = some (.cells #[x, y] 95 (0, 0)) ∧ Below w.heap.size w ((W'.setCell ⟨w.heap.size + 2, 0, none⟩ x).setCell ⟨w.heap.size + 2, 1, none⟩ y)) := fun W' x y hbq hg =>
    ⟨set2 hg x y, (hbq.setCell (p := ⟨w.heap.size + 2, 0, none⟩) (by simp) _).setCell (p := ⟨w.heap.size + 2, 1, none⟩) (by simp) _⟩
  have HG2 := Lib.hid g2; have HB := Lib.hid hb
  clear g0 g1 g2 hb hWs hW
  by_cases hbad : andBad d h bad = true
  · rw [hbad, if_pos rfl]
    have HF : Hid (∀ W', Below w.heap.size w W' → FnTold w 0 true (.returned (.agg #[.int .i64 0, .int .i64 2])) W') := fun W' h => ⟨rfl, h⟩
    unfold andBad at hbad
    cases bad with
    | true =>
      have hh0 := hb0 rfl
      subst hh0
      have hX2 : X = 2 := hX
      subst hX2
      clear hb0 hX
      by_cases h0 : d = 0
      · subst h0
        go_enter Tryz.func69, Tryz.ntmps69
        go_wp2
        exact bodyPost_ret (and_ret rfl (third_end w _ _ _).1 rfl) rfl (HF.out _ (third_end w _ _ _).2)
      · have h1 : ((d : Int) != 0) = true := by simp; omega
        have h2 : min (d : Int) 0 = 0 := by omega
        go_enter Tryz.func69, Tryz.ntmps69
        go_wp2
        exact bodyPost_ret (and_ret rfl (third_end w _ _ _).1 rfl) rfl (HF.out _ (third_end w _ _ _).2)
    | false =>
      have hX2 : X = 0 := hX
      subst hX2
      simp only [Bool.or_false, Bool.and_eq_true, decide_eq_true_eq] at hbad
      have h1 : ((d : Int) != (h : Int)) = true := by simp; omega
      have h2 : (0 : Int) < min (d : Int) (h : Int) := by omega
      clear hb0 hX hbad
      go_enter Tryz.func69, Tryz.ntmps69
      go_wp2
      all_goals exact bodyPost_ret (and_ret rfl (third_end w _ _ _).1 rfl) rfl (HF.out _ (third_end w _ _ _).2)
  · have hbad' : andBad d h bad = false := by simpa using hbad
    rw [hbad', if_neg (by decide)]
    have hbf : bad = false := by
      cases bad with
      | false => rfl
      | true => exact absurd (show andBad d h true = true by unfold andBad; simp) hbad
    subst hbf
    have hX2 : X = 0 := hX
    subst hX2
    have HF : Hid (∀ W', Below w.heap.size w W' → FnTold w (max d h) false (.returned (.agg #[.int .i64 (max d h : Nat), .int .i64 0])) W') := fun W' h => ⟨rfl, h⟩
    unfold andBad at hbad
    simp only [Bool.or_false, Bool.and_eq_true, decide_eq_true_eq] at hbad
    obtain ⟨M, hM⟩ : ∃ M, M = max d h := ⟨_, rfl⟩
    have hmx : max (d : Int) (h : Int) = M := by omega
    rw [← hM] at HF ⊢
    have hfz : ∀ (o : Obj) (i : Nat), (W.alloc o).drew.frozen? ⟨w.heap.size + 2, i, none⟩ = false := fun o i => free_of (w := (W.alloc o).drew) (((((Below.refl W.heap.size W).alloc (Nat.le_refl _) o).drew).block _ (Array.getElem?_eq_some_iff.1 HG2.out).1).trans HG2.out) i
    have hzW : W.heap.size = w.heap.size + 3 := by rw [HW.out]; simp
    clear hbad' hX hb0 hM
    have HOR : Hid (∀ W1 : World, W1.heap = (W.alloc (.cells #[.int .i64 0, .int .i64 0] 31)).heap → Calls Tryz.prog 96 #[.slice (some ⟨w.heap.size + 3, 0, none⟩) 2 2] W1 fun e w' => e = .returned (.int .i64 0) ∧ W1 = w') := fun W1 h1 => by
      have hg : W1.heap[w.heap.size + 3]? = some (.cells #[.int .i64 0, .int .i64 0] 31 (0, 0)) := by rw [h1, ← hzW]; exact heap_alloc_new W _
      exact or_any (cells_of hg 0) (cells_of hg 1)
    have HCS : Hid (∀ W1 : World, Below W.heap.size W W1 → W1.cell? ⟨w.heap.size, 0, none⟩ = some (.int .i64 (d : Nat)) ∧ W1.cell? ⟨w.heap.size, 1, none⟩ = some (.int .i64 0) ∧ W1.cell? ⟨w.heap.size + 1, 0, none⟩ = some (.int .i64 (h : Nat)) ∧ W1.cell? ⟨w.heap.size + 1, 1, none⟩ = some (.int .i64 0)) := fun W1 hW =>
      ⟨(hW.cell (p := ⟨w.heap.size, 0, none⟩) (block_lt_of_cell a0)).trans a0, (hW.cell (p := ⟨w.heap.size, 1, none⟩) (block_lt_of_cell a1)).trans a1, (hW.cell (p := ⟨w.heap.size + 1, 0, none⟩) (block_lt_of_cell b0)).trans b0, (hW.cell (p := ⟨w.heap.size + 1, 1, none⟩) (block_lt_of_cell b1)).trans b1⟩
    by_cases he : d = h
    · subst he
      have hMd : M = d := by omega
      rw [hMd] at HF ⊢
      clear hbad hmx
      go_enter Tryz.func69, Tryz.ntmps69
      go_wp2
      rw [← HW.out]
      rename_i Kc hKc
      refine wp_region_left_tail (by kernel_rfl) 12
        [.is (.pointer (some ⟨w.heap.size, 0, none⟩)), .is (.int .i64 (d : Nat)), .is (.pointer (some ⟨w.heap.size + 1, 0, none⟩)), .is (.int .i64 (d : Nat)), .is (.int .i64 (d : Nat)), .is (.pointer (some ⟨w.heap.size, 1, none⟩)), .is (.int .i64 0), .is (.pointer (some ⟨w.heap.size + 1, 1, none⟩)), .is (.int .i64 0), .ex ErrRow ErrRow.lasts, .is (.int .i64 0), .is (.agg #[.int .i64 (d : Nat), .int .i64 0])]
        [[],[0],[],[2],[1,3],[],[5],[],[7],[6,8],[9],[4,10]] (by kernel_rfl) (by rfl) ?_ ?_
      · repeat' (first | exact LeftOps.nil | refine LeftOps.cons ?_ ?_)
        all_goals (intro wz hwz; clear hKc; try ((repeat (refine withLeft_is rfl rfl ?_)); (with_reducible refine withLeft_nil ?_); (try simp only [Act.put, arr0, arr1, arr2]); (try first | refine lft_run rfl rfl ?_ | refine lft_want rfl rfl rfl rfl ?_)))
        · unfold LftRun; go_wp2; exact lend
        · obtain ⟨a0, a1, b0, b1⟩ := HCS.out wz hwz; unfold LftRun; go_wp2; exact lend
        · unfold LftRun; go_wp2; exact lend
        · obtain ⟨a0, a1, b0, b1⟩ := HCS.out wz hwz; unfold LftRun; go_wp2; exact lend
        · unfold LftRun; go_wp2; all_goals exact ⟨rfl, rfl, rfl, Below.refl _ _⟩
        · unfold LftRun; go_wp2; exact lend
        · obtain ⟨a0, a1, b0, b1⟩ := HCS.out wz hwz; unfold LftRun; go_wp2; exact lend
        · unfold LftRun; go_wp2; exact lend
        · obtain ⟨a0, a1, b0, b1⟩ := HCS.out wz hwz; unfold LftRun; go_wp2; exact lend
        · unfold LftRun; go_wp2; exact ⟨rfl, ErrRow.new wz, rfl, (Below.refl _ _).alloc (Nat.le_refl _) _⟩
        · refine withLeft_ex rfl rfl ?_; rintro _ ⟨g, rfl, e0, e1⟩; refine withLeft_nil ?_; simp only [Act.put, arr0, arr1, arr2]; refine lft_run rfl rfl ?_; unfold LftRun; go_wp2_with fail; refine (or_any e0 e1).mono ?_; rintro e wq ⟨rfl, rfl⟩; go_wp2; exact lend
        · unfold LftRun; go_wp2; exact lend
      intro wz hwz
      refine le8 (LeftEnd.is (LeftEnd.ex (fun _ _ => LeftEnd.is (LeftEnd.is (LeftEnd.nil ?_)))))
      simp only [Act.put, arr0, arr1, arr2]
      have hg2 := (hwz.block _ (Array.getElem?_eq_some_iff.1 HG2.out).1).trans HG2.out
      have d0 := cells_of hg2 0
      have d1 := cells_of hg2 1
      have f0 := free_of hg2 0
      have f1 := free_of hg2 1
      simp only [List.getElem?_toArray, List.getElem?_cons_zero, List.getElem?_cons_succ] at d0 d1
      have HEND := Lib.hid (HSET.out wz (.int .i64 (d : Nat)) (.int .i64 0) (HB.out.trans (hwz.mono HB.out.size)) hg2)
      go_wp2
      exact bodyPost_ret (and_ret rfl HEND.out.1 rfl) rfl (HF.out _ HEND.out.2)
    · have h1 : ((d : Int) != (h : Int)) = true := by simp; omega
      by_cases hle : d ≤ h
      · have hle' : (d : Int) ≤ (h : Int) := by omega
        have hlt' : ¬ (h : Int) < (d : Int) := by omega
        have hz : decide (0 < d) = false := decide_eq_false (by omega)
        have hz' : ¬ 0 < d := by omega
        have hlt2 : (d : Int) < (h : Int) := by omega
        have hMd : M = h := by omega
        rw [hMd] at HF ⊢
        clear hbad hmx
        go_enter Tryz.func69, Tryz.ntmps69
        go_wp2
        rw [← HW.out]
        rename_i Kc hKc
        refine wp_region_left_tail (by kernel_rfl) 12
          [.is (.pointer (some ⟨w.heap.size, 0, none⟩)), .is (.int .i64 (d : Nat)), .is (.pointer (some ⟨w.heap.size + 1, 0, none⟩)), .is (.int .i64 (h : Nat)), .is (.int .i64 (h : Nat)), .is (.pointer (some ⟨w.heap.size, 1, none⟩)), .is (.int .i64 0), .is (.pointer (some ⟨w.heap.size + 1, 1, none⟩)), .is (.int .i64 0), .ex ErrRow ErrRow.lasts, .is (.int .i64 0), .is (.agg #[.int .i64 (h : Nat), .int .i64 0])]
          [[],[0],[],[2],[1,3],[],[5],[],[7],[6,8],[9],[4,10]] (by kernel_rfl) (by rfl) ?_ ?_
        · repeat' (first | exact LeftOps.nil | refine LeftOps.cons ?_ ?_)
          all_goals (intro wz hwz; clear hKc; try ((repeat (refine withLeft_is rfl rfl ?_)); (with_reducible refine withLeft_nil ?_); (try simp only [Act.put, arr0, arr1, arr2]); (try first | refine lft_run rfl rfl ?_ | refine lft_want rfl rfl rfl rfl ?_)))
          · unfold LftRun; go_wp2; exact lend
          · obtain ⟨a0, a1, b0, b1⟩ := HCS.out wz hwz; unfold LftRun; go_wp2; exact lend
          · unfold LftRun; go_wp2; exact lend
          · obtain ⟨a0, a1, b0, b1⟩ := HCS.out wz hwz; unfold LftRun; go_wp2; exact lend
          · unfold LftRun; go_wp2; all_goals exact ⟨rfl, rfl, rfl, Below.refl _ _⟩
          · unfold LftRun; go_wp2; exact lend
          · obtain ⟨a0, a1, b0, b1⟩ := HCS.out wz hwz; unfold LftRun; go_wp2; exact lend
          · unfold LftRun; go_wp2; exact lend
          · obtain ⟨a0, a1, b0, b1⟩ := HCS.out wz hwz; unfold LftRun; go_wp2; exact lend
          · unfold LftRun; go_wp2; exact ⟨rfl, ErrRow.new wz, rfl, (Below.refl _ _).alloc (Nat.le_refl _) _⟩
          · refine withLeft_ex rfl rfl ?_; rintro _ ⟨g, rfl, e0, e1⟩; refine withLeft_nil ?_; simp only [Act.put, arr0, arr1, arr2]; refine lft_run rfl rfl ?_; unfold LftRun; go_wp2_with fail; refine (or_any e0 e1).mono ?_; rintro e wq ⟨rfl, rfl⟩; go_wp2; exact lend
          · unfold LftRun; go_wp2; exact lend
        intro wz hwz
        refine le8 (LeftEnd.is (LeftEnd.ex (fun _ _ => LeftEnd.is (LeftEnd.is (LeftEnd.nil ?_)))))
        simp only [Act.put, arr0, arr1, arr2]
        have hg2 := (hwz.block _ (Array.getElem?_eq_some_iff.1 HG2.out).1).trans HG2.out
        have d0 := cells_of hg2 0
        have d1 := cells_of hg2 1
        have f0 := free_of hg2 0
        have f1 := free_of hg2 1
        simp only [List.getElem?_toArray, List.getElem?_cons_zero, List.getElem?_cons_succ] at d0 d1
        have HEND := Lib.hid (HSET.out wz (.int .i64 (h : Nat)) (.int .i64 0) (HB.out.trans (hwz.mono HB.out.size)) hg2)
        go_wp2
        exact bodyPost_ret (and_ret rfl HEND.out.1 rfl) rfl (HF.out _ HEND.out.2)
      · have hle' : ¬ (d : Int) ≤ (h : Int) := by omega
        have hlt' : (h : Int) < (d : Int) := by omega
        have hz : decide (0 < h) = false := decide_eq_false (by omega)
        have hz' : ¬ 0 < h := by omega
        have hMd : M = d := by omega
        rw [hMd] at HF ⊢
        clear hbad hmx
        go_enter Tryz.func69, Tryz.ntmps69
        go_wp2
        rw [← HW.out]
        rename_i Kc hKc
        refine wp_region_left_tail (by kernel_rfl) 12
          [.is (.pointer (some ⟨w.heap.size, 0, none⟩)), .is (.int .i64 (d : Nat)), .is (.pointer (some ⟨w.heap.size + 1, 0, none⟩)), .is (.int .i64 (h : Nat)), .is (.int .i64 (d : Nat)), .is (.pointer (some ⟨w.heap.size, 1, none⟩)), .is (.int .i64 0), .is (.pointer (some ⟨w.heap.size + 1, 1, none⟩)), .is (.int .i64 0), .ex ErrRow ErrRow.lasts, .is (.int .i64 0), .is (.agg #[.int .i64 (d : Nat), .int .i64 0])]
          [[],[0],[],[2],[1,3],[],[5],[],[7],[6,8],[9],[4,10]] (by kernel_rfl) (by rfl) ?_ ?_
        · repeat' (first | exact LeftOps.nil | refine LeftOps.cons ?_ ?_)
          all_goals (intro wz hwz; clear hKc; try ((repeat (refine withLeft_is rfl rfl ?_)); (with_reducible refine withLeft_nil ?_); (try simp only [Act.put, arr0, arr1, arr2]); (try first | refine lft_run rfl rfl ?_ | refine lft_want rfl rfl rfl rfl ?_)))
          · unfold LftRun; go_wp2; exact lend
          · obtain ⟨a0, a1, b0, b1⟩ := HCS.out wz hwz; unfold LftRun; go_wp2; exact lend
          · unfold LftRun; go_wp2; exact lend
          · obtain ⟨a0, a1, b0, b1⟩ := HCS.out wz hwz; unfold LftRun; go_wp2; exact lend
          · unfold LftRun; go_wp2; all_goals exact ⟨rfl, rfl, rfl, Below.refl _ _⟩
          · unfold LftRun; go_wp2; exact lend
          · obtain ⟨a0, a1, b0, b1⟩ := HCS.out wz hwz; unfold LftRun; go_wp2; exact lend
          · unfold LftRun; go_wp2; exact lend
          · obtain ⟨a0, a1, b0, b1⟩ := HCS.out wz hwz; unfold LftRun; go_wp2; exact lend
          · unfold LftRun; go_wp2; exact ⟨rfl, ErrRow.new wz, rfl, (Below.refl _ _).alloc (Nat.le_refl _) _⟩
          · refine withLeft_ex rfl rfl ?_; rintro _ ⟨g, rfl, e0, e1⟩; refine withLeft_nil ?_; simp only [Act.put, arr0, arr1, arr2]; refine lft_run rfl rfl ?_; unfold LftRun; go_wp2_with fail; refine (or_any e0 e1).mono ?_; rintro e wq ⟨rfl, rfl⟩; go_wp2; exact lend
          · unfold LftRun; go_wp2; exact lend
        intro wz hwz
        refine le8 (LeftEnd.is (LeftEnd.ex (fun _ _ => LeftEnd.is (LeftEnd.is (LeftEnd.nil ?_)))))
        simp only [Act.put, arr0, arr1, arr2]
        have hg2 := (hwz.block _ (Array.getElem?_eq_some_iff.1 HG2.out).1).trans HG2.out
        have d0 := cells_of hg2 0
        have d1 := cells_of hg2 1
        have f0 := free_of hg2 0
        have f1 := free_of hg2 1
        simp only [List.getElem?_toArray, List.getElem?_cons_zero, List.getElem?_cons_succ] at d0 d1
        have HEND := Lib.hid (HSET.out wz (.int .i64 (d : Nat)) (.int .i64 0) (HB.out.trans (hwz.mono HB.out.size)) hg2)
        go_wp2
        exact bodyPost_ret (and_ret rfl HEND.out.1 rfl) rfl (HF.out _ HEND.out.2)
end Go.Proofs.YtdbgihpognfhdaaGreat.Sl.Nd
/- Places in a program: where the kids of a node lie. -/
namespace Go.Proofs.YtdbgihpognfhdaaGreat.Sl.Nd
open Go Go.RowKit Go.By
def plCells (deep : Nat) (t : Value × Value) : List Value := [.int .i64 (deep : Nat), t.1, t.2]
set_option maxRecDepth 1000000 in
theorem info_place : ∃ i, Tryz.prog.info? 98 = some i ∧ i.zero = some (.agg #[.int .i64 0, .slice none 0 0, .slice none 0 0]) ∧ i.size = 3 ∧ i.bytes = 56 := ⟨_, rfl, rfl, rfl, rfl⟩
def PlRow (w0 w : World) (v : Value) (deep : Nat) (p : Option Addr) (L : Nat) (bv : Value) (k : Nat) : Prop :=
  ∃ ts : List (Value × Value), ts.length = k ∧ w.ownsRow w0.heap.size 98 3 v k (ts.flatMap (plCells deep)) ∧ ∀ j (h : j < ts.length), KidPl w0 p j L bv ts[j].1 ts[j].2
theorem PlRow.push {w0 w : World} {v x y bv : Value} {deep k L : Nat} {p : Option Addr} (h : PlRow w0 w v deep p L bv k) (hn : k ≤ 1000000) (hB : Below w0.heap.size w0 w) (hk : KidPl w0 p k L bv x y) (hx : x.oneCell' = true) (hy : y.oneCell' = true) :
    ∃ p' c' w', (Builtin.append_ #[143, 143] 143 #[v, .slice (some ⟨w.heap.size, 0, none⟩) 1 1]).run Tryz.prog (w.alloc (.cells #[.int .i64 (deep : Nat), x, y] 98)) = .ok (.slice p' (k + 1) c') w' ∧ PlRow w0 w' (.slice p' (k + 1) c') deep p L bv (k + 1) ∧ Below w0.heap.size w0 w' := by
  obtain ⟨ts, h1, h2, h3⟩ := h
  obtain ⟨i, hi, hz, hs, hby⟩ := info_place
  obtain ⟨v', w', hr, ho, hg⟩ := run_append_grows (P := Tryz.prog) (w := w.alloc (.cells #[.int .i64 (deep : Nat), x, y] 98)) 143 (t := 143) (e := 98) (by kernel_rfl) hi hz hs hby rfl (by decide) w0.heap.size v k (ts.flatMap (plCells deep)) (h2.alloc _) w.heap.size 0 1 1 [.int .i64 (deep : Nat), x, y] rfl (by
    intro j u hu
    rw [Nat.zero_add]
    have := cells_of (heap_alloc_new w (.cells #[.int .i64 (deep : Nat), x, y] 98)) j
    rw [this]
    simpa using hu) (by simp [hx, hy]; rfl) (by unfold maxLen; omega) (by omega) (by have := hB.size; simp; omega)
  have hga := (Grows.alloc w v (.cells #[.int .i64 (deep : Nat), x, y] 98)).trans hg
  obtain ⟨p', c', rfl, -⟩ := owns_at ho (by decide)
  refine ⟨p', c', w', hr, ⟨ts ++ [(x, y)], by simp [h1], by simpa [plCells] using ho, fun j hj => ?_⟩, hga.below hB hB.size (fun j hj => (h2.lt j hj).1)⟩
  by_cases hlt : j < ts.length
  · rw [List.getElem_append_left hlt]
    exact h3 j hlt
  · obtain rfl : j = ts.length := by simp at hj; omega
    rw [List.getElem_append_right (Nat.le_refl _)]
    simp only [Nat.sub_self, List.getElem_singleton]
    rw [h1]
    exact hk
theorem flat_three {α : Type} {f : α → List Value} (hf : ∀ x, (f x).length = 3) : ∀ {xs : List α} {j i : Nat} (h : j < xs.length), i < 3 → (xs.flatMap f)[j * 3 + i]? = (f xs[j])[i]?
  | x :: xs, 0, i, _, hi => by
    rw [List.flatMap_cons, List.getElem?_append_left (by rw [hf]; omega)]; simp
  | x :: xs, j + 1, i, h, hi => by
    rw [List.flatMap_cons, List.getElem?_append_right (by rw [hf]; omega), hf]
    have e : (j + 1) * 3 + i - 3 = j * 3 + i := by omega
    rw [e, flat_three hf (by simpa using h) hi, List.getElem_cons_succ]
def KidsTold (w : World) (deep : Nat) (pk : Option Addr) (L : Nat) (bv : Value) (z : Ending) (w' : World) : Prop :=
  ∃ p c, z = .returned (.slice p L c) ∧ L ≤ c ∧ c ≤ maxLen ∧ (∀ j, j < L → ∃ g x y, p = some ⟨g, 0, none⟩ ∧ w.heap.size ≤ g ∧ g < w'.heap.size ∧ w'.cell? ⟨g, j * 3, none⟩ = some (.int .i64 (deep + 1 : Nat)) ∧ w'.cell? ⟨g, j * 3 + 1, none⟩ = some x ∧ w'.cell? ⟨g, j * 3 + 2, none⟩ = some y ∧ KidPl w pk j L bv x y) ∧ Below w.heap.size w w'
theorem KidPl.back {w w' : World} {p : Option Addr} {i L : Nat} {bv a b : Value} (h : KidPl w' p i L bv a b) (hb : Below w.heap.size w w') (hp : ∀ g, p = some g → g.block < w.heap.size) : KidPl w p i L bv a b := by
  obtain ⟨lb, lo, rfl, h1, h2⟩ := h
  have hl := hp _ rfl
  refine ⟨lb, lo, rfl, (hb.cell (p := ⟨lb, lo + i, none⟩) hl).symm.trans h1, ?_⟩
  split at h2
  · rename_i hlt; rw [if_pos hlt]; exact (hb.cell (p := ⟨lb, lo + (i + 1), none⟩) hl).symm.trans h2
  · rename_i hlt; rw [if_neg hlt]; exact h2
theorem PlRow.told {w0 w wr : World} {v bv : Value} {deep L : Nat} {p : Option Addr} (h : PlRow w wr v (deep + 1) p L bv L) (hb0 : Below w0.heap.size w0 w) (hb : Below w.heap.size w wr) (hp : 0 < L → ∀ g, p = some g → g.block < w0.heap.size) : ∃ q c, v = .slice q L c ∧ KidsTold w0 deep p L bv (.returned (.slice q L c)) wr := by
  obtain ⟨ts, h1, h2, h3⟩ := h
  obtain ⟨q, c, rfl, q1, q2, q3⟩ := owns_at h2 (by decide)
  refine ⟨q, c, rfl, q, c, rfl, q1, q2, fun j hj => ?_, hb0.trans (hb.mono hb0.size)⟩
  have hj' : j < ts.length := by omega
  have f := fun i (hi : i < 3) => flat_three (f := plCells (deep + 1)) (fun _ => rfl) hj' hi
  obtain ⟨g, rfl, c0⟩ := q3 (j * 3 + 0) _ ((f 0 (by decide)).trans (by rfl))
  obtain ⟨g1, e1, c1⟩ := q3 (j * 3 + 1) _ ((f 1 (by decide)).trans (by rfl))
  obtain ⟨g2, e2, c2⟩ := q3 (j * 3 + 2) _ ((f 2 (by decide)).trans (by rfl))
  cases e1; cases e2
  simp only [Nat.zero_add, Nat.add_zero] at c0 c1 c2
  have ho := h2.lt g rfl
  exact ⟨g, _, _, rfl, Nat.le_trans hb0.size ho.1, ho.2, c0, c1, c2, (h3 j hj').back hb0 (hp (by omega))⟩
def KsLoop (w0 : World) (deep : Nat) (p : Option Addr) (L : Nat) (bv : Value) (x i : Value) (wr : World) : Prop :=
  ∃ k : Nat, k ≤ L ∧ i = .int .i64 k ∧ PlRow w0 wr x deep p L bv k ∧ Below w0.heap.size w0 wr
theorem PlRow.shape {w0 w : World} {v : Value} {deep : Nat} {p : Option Addr} {L : Nat} {bv : Value} {k : Nat} (h : PlRow w0 w v deep p L bv k) : ∃ q c, v = .slice q k c := by
  obtain ⟨cs, _, ho, _⟩ := h
  obtain ⟨p, c, h, -⟩ := owns_at ho (by decide)
  exact ⟨p, c, h⟩
set_option maxRecDepth 100000 in
set_option maxHeartbeats 1000000 in
theorem kids_any {w : World} {v nv a b : Value} {deep : Nat} {least bound : List Nat} {n : Nd} {pi pk pd : Option Addr} {ci ck cd : Nat} (h : PlAt w v deep least bound a b) (hn : IsNd w nv n pi ci pk ck pd cd) (hd : deep < 1000) (hN : n.ks.length ≤ 1000000) :
    Calls Tryz.prog 68 #[v, nv] w (KidsTold w deep pk n.ks.length b) := by
  have hv := h.val
  have hnv := hn.val
  subst hv hnv
  obtain ⟨W0, hW0⟩ : ∃ W, W = w.alloc (.cells #[.int .i64 (deep : Nat), a, b] 98) := ⟨_, rfl⟩
  obtain ⟨W, hW⟩ : ∃ W, W = W0.alloc (.cells #[.bool n.leaf, .slice pi n.its.length ci, .slice pk n.ks.length ck, .slice pd n.kids.length cd] 38) := ⟨_, rfl⟩
  have hb0 : Below w.heap.size w W0 := by rw [hW0]; exact (Below.refl w.heap.size w).alloc (Nat.le_refl _) _
  have hb1 : Below W0.heap.size W0 W := by rw [hW]; exact (Below.refl _ _).alloc (Nat.le_refl _) _
  have hb : Below w.heap.size w W := hb0.trans (hb1.mono hb0.size)
  have hz0 : W0.heap.size = w.heap.size + 1 := by rw [hW0]; simp
  have hpc : PlCells W w.heap.size deep a b := (hb1.block _ (by omega)).trans (by rw [hW0]; exact heap_alloc_new w _)
  have hnd : NdAt W (w.heap.size + 1) n pi ci pk ck pd cd := by rw [hW, ← hz0]; exact NdAt.new ..
  have HWW : Hid (W = (w.alloc (.cells #[.int .i64 (deep : Nat), a, b] 98)).alloc (.cells #[.bool n.leaf, .slice pi n.its.length ci, .slice pk n.ks.length ck, .slice pd n.kids.length cd] 38)) := by unfold Hid; rw [hW, hW0]
  have HK := Lib.hid (hn.ks.below hb)
  have HB := Lib.hid hb; have HPC := Lib.hid hpc; have HND := Lib.hid hnd
  have HPL : Hid (0 < n.ks.length → ∀ g, pk = some g → g.block < w.heap.size) := fun h0 g hg => by
    obtain ⟨lb, lo, rfl, hat⟩ := hn.ks.some h0
    obtain ⟨cs, hc, x0, rfl, -⟩ := hat 0 h0
    cases hg
    exact block_lt_of_cell hc.one
  obtain ⟨N, hNN⟩ : ∃ N, N = n.ks.length := ⟨_, rfl⟩
  have HN := Lib.hid hNN
  have hN6 : (N : Int) ≤ 1000000 := by omega
  obtain ⟨qa, ca, rfl, -⟩ := h.least.any
  obtain ⟨qb, cb, rfl, -⟩ := h.bound.any
  have hwd : IntKind.i64.wrap ((deep : Int) + 1) = (deep + 1 : Nat) := by rw [IntKind.wrap_i64]; omega
  obtain ⟨D, hD⟩ : ∃ D, D = deep + 1 := ⟨_, rfl⟩
  rw [← hD] at hwd
  have HD := Lib.hid hD
  clear h hn hW hW0 hb0 hb1 hb hz0 hpc hnd hN hd hD
  have HLP : Hid (KsLoop W D pk N (.slice qb bound.length cb) (.slice none 0 0) (.int .i64 (0 : Nat)) W) := ⟨0, Nat.zero_le _, rfl, ⟨[], rfl, World.ownsRow_nil _ _ _ _, fun j hj => absurd hj (Nat.not_lt_zero _)⟩, Below.refl _ _⟩
  obtain ⟨n0, n1, n2, n3⟩ := HND.out.cells
  rw [← hNN] at n2 HWW ⊢
  clear hNN
  generalize bound.length = lb at *
  generalize least.length = la at *
  go_enter Tryz.func68, Tryz.ntmps68
  go_wp2
  rw [← HWW.out]
  go_loopw [5, 12] (fun x i w' => KsLoop W D pk N (.slice qb lb cb) x i w') (fun _ i _ => N - (intOf i).toNat)
  case atStart => exact HLP.out
  case round =>
    clear HLP n0 n1 n2 n3
    obtain ⟨k, hk, rfl, hrow, hB⟩ := hrel
    obtain ⟨px, cx, rfl⟩ := hrow.shape
    by_cases hlt : k < N
    · have hkl : k < n.ks.length := by rw [← HN.out]; exact hlt
      have hpc1 : PlCells wr w.heap.size deep (.slice qa la ca) (.slice qb lb cb) := (hB.block _ (Array.getElem?_eq_some_iff.1 HPC.out).1).trans HPC.out
      have c0 := cells_of hpc1 0
      have c1 := cells_of hpc1 1
      have c2 := cells_of hpc1 2
      simp only [List.getElem?_toArray, List.getElem?_cons_zero, List.getElem?_cons_succ] at c0 c1 c2
      obtain ⟨n0, n1, n2, n3⟩ := (HND.out.below hB).cells
      rw [← HN.out] at n2
      obtain ⟨b1, o1, rfl, hat⟩ := HK.out.some (by omega)
      obtain ⟨cs, hc, x0, rfl, hx0⟩ := hat k hkl
      have e0' := hc.one
      have e0 := (hc.below hB).one
      simp only [KBytes, Nat.mul_one] at e0 e0'
      obtain ⟨q0, k0, rfl, -⟩ := hx0.any
      generalize n.ks[k].length = l0 at *
      have HROW := Lib.hid hrow; have HBB := Lib.hid hB; have HLT := Lib.hid hlt
      have hki : (k : Int) < N := by omega
      have hwi : IntKind.i64.wrap ((k : Int) + 1) = (k + 1 : Nat) := by rw [IntKind.wrap_i64]; omega
      obtain ⟨J, hJ⟩ : ∃ J, J = k + 1 := ⟨_, rfl⟩
      have HJ := Lib.hid hJ
      by_cases hlt2 : k + 1 < N
      · have hkl2 : k + 1 < n.ks.length := by rw [← HN.out]; exact hlt2
        obtain ⟨cs', hc', x1, rfl, hx1⟩ := hat (k + 1) hkl2
        have e1' := hc'.one
        have e1 := (hc'.below hB).one
        simp only [KBytes, Nat.mul_one] at e1 e1'
        obtain ⟨q1, k1, rfl, -⟩ := hx1.any
        generalize n.ks[k + 1].length = l1 at *
        obtain ⟨p', c', w', hrun, hr', hb'⟩ := hrow.push (x := .slice q0 l0 k0) (y := .slice q1 l1 k1) (by omega) hB ⟨b1, o1, rfl, e0', by rw [if_pos hlt2]; exact e1'⟩ rfl rfl
        have HNX : Hid (KsLoop W D (some ⟨b1, o1, none⟩) N (.slice qb lb cb) (.slice p' J c') (.int .i64 J) w') := by rw [hJ]; exact ⟨k + 1, by omega, rfl, hr', hb'⟩
        rw [← hJ] at hwi e1 hrun
        have hJi : (J : Int) < N := by omega
        have HRUN := Lib.hid hrun
        clear hJ hrun hr' hb' hrow hx0 hx1 hc hc' hat hB hkl hkl2 hk hlt hlt2 e0' e1' hpc1
        go_wp2_with (at_builtin; refine Lib.wpList_append_run _ rfl (.tmp 31) (.tmp 38) 143 143 rfl _ _ rfl rfl _ w' HRUN.out ?_)
        go_roundw
        case rel => exact HNX.out
        case measure => simp [intOf]; have := HLT.out; have := HJ.out; omega
      · obtain ⟨p', c', w', hrun, hr', hb'⟩ := hrow.push (x := .slice q0 l0 k0) (y := .slice qb lb cb) (by omega) hB ⟨b1, o1, rfl, e0', by rw [if_neg hlt2]⟩ rfl rfl
        have HNX : Hid (KsLoop W D (some ⟨b1, o1, none⟩) N (.slice qb lb cb) (.slice p' J c') (.int .i64 J) w') := by rw [hJ]; exact ⟨k + 1, by omega, rfl, hr', hb'⟩
        rw [← hJ] at hwi hrun
        have hJi : ¬ (J : Int) < N := by omega
        have HRUN := Lib.hid hrun
        clear hJ hrun hr' hb' hrow hx0 hc hat hB hkl hk hlt hlt2 e0' hpc1
        go_wp2_with (at_builtin; refine Lib.wpList_append_run _ rfl (.tmp 31) (.tmp 38) 143 143 rfl _ _ rfl rfl _ w' HRUN.out ?_)
        go_roundw
        case rel => exact HNX.out
        case measure => simp [intOf]; have := HLT.out; have := HJ.out; omega
    · have hkN : k = N := by omega
      subst hkN
      rw [HD.out] at hrow
      obtain ⟨q, c, hq, ht⟩ := hrow.told HB.out hB (by rw [HN.out]; exact HPL.out)
      cases hq
      have HF := Lib.hid ht
      clear ht hrow hB hlt hk
      go_wp2
      go_ret
      exact HF.out
theorem root_ret {tmps : Array Value} {w : World} {A : Nat} {cs : Array Value} (hp : tmps.getD 0 undef = .pointer (some ⟨A, 0, none⟩)) (hg : w.heap[A]? = some (.cells cs 98 (0, 0))) (hc : cs.size = 3) :
    (results Tryz.f40 tmps).run Tryz.prog w = .ok (.agg cs) w := by
  have hi : (Tryz.prog.info? 98).map (·.size) = some cs.size := by rw [hc]; kernel_rfl
  have hq : (Tryz.prog.underlying 98).map (fun d => match d with | .struct _ | .array _ _ => true | _ => false) = some true := by kernel_rfl
  obtain ⟨d, hu, hd⟩ := Option.map_eq_some_iff.1 hq
  exact results_cell_row (p := 0) (ty := 98) (by kernel_rfl) tmps w A 98 cs (0, 0) d hp hg hu (by cases d <;> simp_all) hi
set_option maxRecDepth 100000 in
theorem root_any (w : World) : Calls Tryz.prog 40 #[] w fun e w' => e = .returned (.agg #[.int .i64 1, .slice none 0 0, .slice none 0 0]) ∧ Below w.heap.size w w' := by
  go_enter Tryz.func40, Tryz.ntmps40
  go_wp2
  exact bodyPost_ret (root_ret rfl (heap_alloc_new w _) rfl) rfl ⟨rfl, (Below.refl _ _).alloc (Nat.le_refl _) _⟩
set_option maxRecDepth 100000 in
theorem deep_any (w : World) (d : Nat) (a b : Value) : Calls Tryz.prog 67 #[.agg #[.int .i64 (d : Nat), a, b]] w fun e w' => e = .returned (.int .i64 (d : Nat)) ∧ Below w.heap.size w w' := by
  have HB := Lib.hid ((Below.refl w.heap.size w).alloc (Nat.le_refl _) (.cells #[.int .i64 (d : Nat), a, b] 98))
  go_enter Tryz.func67, Tryz.ntmps67
  go_wp2
  go_ret
  exact ⟨rfl, HB.out⟩
end Go.Proofs.YtdbgihpognfhdaaGreat.Sl.Nd
