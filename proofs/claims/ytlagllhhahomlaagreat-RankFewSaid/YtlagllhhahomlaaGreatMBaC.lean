/- Nodes in a program: what the laws say of them; it has begun. -/
import Derived.Test.YtlagllhhahomlaaGreatMNdV
import Derived.Test.YtlagllhhahomlaaGreatMCloneG
import Derived.Test.YtlagllhhahomlaaGreatMLits
import Derived.Test.YtlagllhhahomlaaGreatMSlA
import Derived.Lib.SlBytesConst
import Derived.Lib.SmallJoins
import Derived.Test.YtlagllhhahomlaaGreatMHdP
import Derived.Test.YtlagllhhahomlaaGreatMSlB
import Derived.Test.YtlagllhhahomlaaGreatMLfQ
import Derived.Handy
import Derived.BigQuiet
import Derived.Deep.QuietTactic
import Derived.Test.YtlagllhhahomlaaGreatMLfF
import Derived.Laws.IdiomCopy
namespace Go.Proofs.YtlagllhhahomlaaGreat.Sl.Nd
open Go Go.RowKit Go.By
def sumCt : List NKd → Nat
  | [] => 0
  | d :: r => d.ct + sumCt r
theorem sumCt_at : ∀ {l : List NKd} {k : Nat} (h : k < l.length), sumCt (l.take (k + 1)) = sumCt (l.take k) + l[k].ct
  | d :: r, 0, _ => by simp [sumCt]
  | d :: r, k + 1, h => by
    rw [List.take_succ_cons, sumCt, sumCt_at (by simpa using h), List.take_succ_cons, sumCt, List.getElem_cons_succ]
    omega
theorem sumCt_take : ∀ (l : List NKd) (k : Nat), sumCt (l.take k) ≤ sumCt l
  | [], k => by simp
  | d :: r, 0 => by simp [sumCt]
  | d :: r, k + 1 => by
    rw [List.take_succ_cons, sumCt, sumCt]
    have := sumCt_take r k
    omega
def cnt (n : Nd) : Nat := if n.leaf = true then n.its.length else sumCt n.kids
def CntRel (w : World) (kids : List NKd) (s i : Value) (wr : World) : Prop :=
  ∃ k : Nat, k ≤ kids.length ∧ i = .int .i64 k ∧ s = .int .u64 (sumCt (kids.take k) : Nat) ∧ Below w.heap.size w wr
set_option maxRecDepth 100000 in
theorem count_any {w : World} {v : Value} {n : Nd} {pi pk pd : Option Addr} {ci ck cd : Nat} (h : IsNd w v n pi ci pk ck pd cd) (hs : sumCt n.kids ≤ 17592186044416) :
    Calls Tryz.prog 108 #[v] w fun z w' => z = .returned (.int .u64 (cnt n : Nat)) ∧ Below w.heap.size w w' := by
  have hv := h.val
  subst hv
  obtain ⟨W, hW⟩ : ∃ W, W = w.alloc (.cells #[.bool n.leaf, .slice pi n.its.length ci, .slice pk n.ks.length ck, .slice pd n.kids.length cd] 38) := ⟨_, rfl⟩
  have hb : Below w.heap.size w W := by rw [hW]; exact (Below.refl w.heap.size w).alloc (Nat.le_refl _) _
  have hx : NdAt W w.heap.size n pi ci pk ck pd cd := by rw [hW]; exact NdAt.new ..
  have HD := Lib.hid (h.kids.below hb)
  have hi9 : (n.its.length : Int) ≤ 9223372036854775807 := by have := h.its.le; have := h.its.most; unfold maxLen at this; omega
  have hk9 : (n.kids.length : Int) ≤ 9223372036854775807 := by have := h.kids.le; have := h.kids.most; unfold maxLen at this; omega
  have HB := Lib.hid hb; have HX := Lib.hid hx; have HW := Lib.hid hW; have HS := Lib.hid hs
  have HC : Hid (cnt n = if n.leaf = true then n.its.length else sumCt n.kids) := rfl
  clear h hW hb hx hs
  obtain ⟨c0, c1, c2, c3⟩ := HX.out.cells
  cases hlf : n.leaf with
  | true =>
    have E : Hid (cnt n = n.its.length) := by unfold Hid; rw [HC.out, if_pos hlf]
    have hwu : IntKind.u64.wrap (n.its.length : Int) = n.its.length := by rw [IntKind.wrap_u64]; omega
    rw [hlf] at c0 HW
    go_enter Tryz.func108, Tryz.ntmps108
    go_wp2
    rw [← HW.out]
    go_ret
    exact ⟨by rw [E.out]; rfl, HB.out⟩
  | false =>
    have E : Hid (cnt n = sumCt n.kids) := by unfold Hid; rw [HC.out, hlf]; rfl
    have H0 : Hid (CntRel W n.kids (.int .u64 0) (.int .i64 (0 : Nat)) W) := ⟨0, Nat.zero_le _, rfl, rfl, Below.refl _ _⟩
    obtain ⟨N, hN⟩ : ∃ N, N = n.kids.length := ⟨_, rfl⟩
    have HN := Lib.hid hN
    rw [hlf] at c0 HW
    rw [← hN] at c3 hk9 HW ⊢
    clear hN
    go_enter Tryz.func108, Tryz.ntmps108
    go_wp2
    rw [← HW.out]
    go_loopw [3, 15] (fun s i w' => CntRel W n.kids s i w') (fun _ i _ => N - (intOf i).toNat)
    case atStart => exact H0.out
    case round =>
      clear H0
      obtain ⟨k, hk, rfl, rfl, hbl⟩ := hrel
      by_cases hlt : k < N
      · have hkd : k < n.kids.length := by rw [← HN.out]; exact hlt
        obtain ⟨lb, lo, rfl, hat⟩ := HD.out.some (by omega)
        obtain ⟨cs, hc, rfl, _, _⟩ := hat k hkd
        obtain ⟨e0, e1⟩ := (hc.below hbl).two
        simp only [KRef] at e0 e1
        have hst := sumCt_at hkd
        have hs1 := sumCt_take n.kids (k + 1)
        have hs2 := HS.out
        generalize n.kids[k] = d at *
        obtain ⟨off, ct⟩ := d
        simp only at e0 e1 hst
        have HNX : Hid (CntRel W n.kids (.int .u64 (sumCt (n.kids.take k) + ct : Nat)) (.int .i64 (k + 1 : Nat)) (wr.alloc (.cells #[.int .i64 off, .int .u64 (ct : Nat)] 25))) := ⟨k + 1, hkd, rfl, by rw [hst], hbl.alloc hbl.size _⟩
        have HLT := Lib.hid hlt
        generalize sumCt (n.kids.take k) = S at *
        have hwu : IntKind.u64.wrap ((S : Int) + ct) = ((S + ct : Nat) : Int) := by rw [IntKind.wrap_u64]; omega
        clear hst hs1 hs2 hc hat hbl hkd hk
        go_wp2
        go_roundw
        case rel => exact HNX.out
        case measure => simp [intOf]; have := HLT.out; omega
      · have hkN : k = N := by have := HN.out; omega
        have HBL : Hid (Below w.heap.size w wr) := HB.out.trans (hbl.mono HB.out.size)
        rw [List.take_of_length_le (by rw [← HN.out]; omega), ← E.out]
        clear hbl hlt hk
        subst hkN
        go_wp2
        go_ret
        exact ⟨rfl, HBL.out⟩
end Go.Proofs.YtlagllhhahomlaaGreat.Sl.Nd
/- Trees in a program: the keys of a node; whether a key is low enough. -/
namespace Go.Proofs.YtlagllhhahomlaaGreat.Sl.Nd
open Go Go.RowKit Go.By
def KbRow (w0 w : World) (v : Value) (ks : List (List Nat)) : Prop :=
  ∃ cs : List Value, cs.length = ks.length ∧ w.ownsRow w0.heap.size 26 1 v ks.length cs ∧ ∀ j (h : j < ks.length) (h' : j < cs.length), Bytes w0 cs[j] ks[j]
theorem KbRow.at_ {w0 w : World} {v : Value} {ks : List (List Nat)} (h : KbRow w0 w v ks) (hb : Below w0.heap.size w0 w) : ∃ p cap, v = .slice p ks.length cap ∧ RowAt KBytes w p cap ks := by
  obtain ⟨cs, h1, h2, h3⟩ := h
  obtain ⟨p, cap, rfl, q1, q2, q3⟩ := owns_at h2 (by decide)
  refine ⟨p, cap, rfl, q1, q2, fun j hj => ?_⟩
  have hj' : j < cs.length := by omega
  obtain ⟨g, rfl, c0⟩ := q3 j cs[j] (List.getElem?_eq_getElem hj')
  refine ⟨g, 0, [cs[j]], rfl, fun i hi => ?_, cs[j], rfl, (h3 j hj hj').below hb⟩
  match i, hi with
  | 0, _ => simpa [KBytes] using c0
theorem KbRow.shape {w0 w : World} {v : Value} {ks : List (List Nat)} {k : Nat} (h : KbRow w0 w v ks) (hl : ks.length = k) : ∃ p c, v = .slice p k c := by
  obtain ⟨cs, _, ho, _⟩ := h
  rw [hl] at ho
  obtain ⟨p, c, h, -⟩ := owns_at ho (by decide)
  exact ⟨p, c, h⟩
theorem KbRow.push {w0 w : World} {v a : Value} {ks : List (List Nat)} {k : List Nat} (h : KbRow w0 w v ks) (hn : ks.length ≤ 1000000) (hB : Below w0.heap.size w0 w) (ha : Bytes w0 a k) :
    ∃ p' c' w', (Builtin.append_ #[36, 36] 36 #[v, .slice (some ⟨w.heap.size, 0, none⟩) 1 1]).run Tryz.prog (w.alloc (.cells #[a] 26)) = .ok (.slice p' (ks.length + 1) c') w' ∧ KbRow w0 w' (.slice p' (ks.length + 1) c') (ks ++ [k]) ∧ Below w0.heap.size w0 w' := by
  obtain ⟨cs, h1, h2, h3⟩ := h
  obtain ⟨i, hi, hz, hs, hby⟩ := info_row
  obtain ⟨pa, ca, rfl, -⟩ := ha.any
  obtain ⟨v', w', hr, ho, hg⟩ := run_append_grows (P := Tryz.prog) (w := w.alloc (.cells #[.slice pa k.length ca] 26)) 36 (t := 36) (e := 26) (by kernel_rfl) hi hz hs hby rfl (by decide) w0.heap.size v ks.length cs (h2.alloc _) w.heap.size 0 1 1 [.slice pa k.length ca] rfl (by
    intro j u hu
    rw [Nat.zero_add]
    have := cells_of (heap_alloc_new w (.cells #[.slice pa k.length ca] 26)) j
    rw [this]
    simpa using hu) (by simp [Value.oneCell']) (by unfold maxLen; omega) (by omega) (by have := hB.size; simp; omega)
  have hga := (Grows.alloc w v (.cells #[.slice pa k.length ca] 26)).trans hg
  obtain ⟨p', c', rfl, -⟩ := owns_at ho (by decide)
  refine ⟨p', c', w', hr, ⟨cs ++ [.slice pa k.length ca], by simp [h1], by simpa using ho, fun j hj hj' => ?_⟩, hga.below hB hB.size (fun j hj => (h2.lt j hj).1)⟩
  by_cases hlt : j < ks.length
  · rw [List.getElem_append_left hlt, List.getElem_append_left (by omega)]
    exact h3 j hlt (by omega)
  · obtain rfl : j = ks.length := by simp at hj; omega
    rw [List.getElem_append_right (Nat.le_refl _), List.getElem_append_right (by omega)]
    simp only [h1, Nat.sub_self, List.getElem_singleton]
    exact ha
theorem made_keys (w : World) : (Instr.makeSlice 36 (.int .i64 0) (.int .i64 8)).run Tryz.prog w = .ok (.slice (some ⟨w.heap.size, 0, none⟩) 0 8) (w.alloc (.cells #[.slice none 0 0, .slice none 0 0, .slice none 0 0, .slice none 0 0, .slice none 0 0, .slice none 0 0, .slice none 0 0, .slice none 0 0] 26)) := by
  obtain ⟨i, hi, hz, hs, hby⟩ := info_row
  have h := run_make (P := Tryz.prog) (w := w) 36 26 i (.slice none 0 0) (by kernel_rfl) hi hz .i64 .i64 0 8 (by omega) (by omega) (by rw [hby]; omega) (by omega)
  have e : madeCells (Value.slice none 0 0).cells ((8 : Int).toNat * 1) = #[.slice none 0 0, .slice none 0 0, .slice none 0 0, .slice none 0 0, .slice none 0 0, .slice none 0 0, .slice none 0 0, .slice none 0 0] := by kernel_rfl
  rw [h, hs, e]
  rfl
def KeysTold (w : World) (n : Nd) (z : Ending) (w' : World) : Prop := ∃ p c, z = .returned (.slice p (keysN n).length c) ∧ RowAt KBytes w' p c (keysN n) ∧ Below w.heap.size w w'
def KyLoop (w0 _w : World) (its : List NIt) (x i : Value) (wr : World) : Prop :=
  ∃ k : Nat, k ≤ its.length ∧ i = .int .i64 k ∧ KbRow w0 wr x ((its.take k).map (·.k)) ∧ Below w0.heap.size w0 wr
set_option maxRecDepth 100000 in
set_option maxHeartbeats 1000000 in
theorem keysOf_any {w : World} {v : Value} {n : Nd} {pi pk pd : Option Addr} {ci ck cd : Nat} (h : IsNd w v n pi ci pk ck pd cd) (h8 : n.its.length ≤ 8) :
    Calls Tryz.prog 80 #[v] w (KeysTold w n) := by
  have hv := h.val
  subst hv
  obtain ⟨W, hW⟩ : ∃ W, W = w.alloc (.cells #[.bool n.leaf, .slice pi n.its.length ci, .slice pk n.ks.length ck, .slice pd n.kids.length cd] 38) := ⟨_, rfl⟩
  have hb : Below w.heap.size w W := by rw [hW]; exact (Below.refl w.heap.size w).alloc (Nat.le_refl _) _
  have hx : NdAt W w.heap.size n pi ci pk ck pd cd := by rw [hW]; exact NdAt.new ..
  have HK := Lib.hid (h.ks.below hb)
  have HI := Lib.hid (h.its.below hb)
  have HB := Lib.hid hb; have HX := Lib.hid hx; have HW := Lib.hid hW; have H8 := Lib.hid h8
  have HC : Hid (keysN n = if n.leaf = true then n.its.map (·.k) else n.ks) := rfl
  clear h hW hb hx h8
  obtain ⟨c0, c1, c2, c3⟩ := HX.out.cells
  cases hlf : n.leaf with
  | false =>
    have E : Hid (keysN n = n.ks) := by unfold Hid; rw [HC.out, hlf]; rfl
    rw [hlf] at c0 HW
    have HF : Hid (KeysTold w n (.returned (.slice pk n.ks.length ck)) W) := ⟨pk, ck, by rw [E.out], by rw [E.out]; exact HK.out, HB.out⟩
    generalize n.ks.length = NK at *
    go_enter Tryz.func80, Tryz.ntmps80
    go_wp2
    rw [← HW.out]
    go_ret
    exact HF.out
  | true =>
    have E : Hid (keysN n = n.its.map (·.k)) := by unfold Hid; rw [HC.out, if_pos hlf]
    obtain ⟨N, hN⟩ : ∃ N, N = n.its.length := ⟨_, rfl⟩
    have HN := Lib.hid hN
    have hN8 : (N : Int) ≤ 8 := by have := H8.out; omega
    have hmade : KyLoop W W n.its (.slice (some ⟨W.heap.size, 0, none⟩) 0 8) (.int .i64 (0 : Nat)) (W.alloc (.cells #[.slice none 0 0, .slice none 0 0, .slice none 0 0, .slice none 0 0, .slice none 0 0, .slice none 0 0, .slice none 0 0, .slice none 0 0] 26)) :=
      ⟨0, Nat.zero_le _, rfl, ⟨[], rfl, World.ownsRow_made W _ 8 (Nat.le_refl _) (by decide) rfl, fun j hj => absurd hj (Nat.not_lt_zero _)⟩, (Below.refl _ _).alloc (Nat.le_refl _) _⟩
    have HM := Lib.hid hmade
    rw [hlf] at c0 HW
    rw [← hN] at c1 HW ⊢
    have HZ : Hid (W.heap.size = w.heap.size + 1) := by unfold Hid; rw [HW.out]; simp
    have hmk := made_keys
    clear hN hmade
    go_enter Tryz.func80, Tryz.ntmps80
    go_wp2
    clear hmk
    rw [← HW.out, ← HZ.out]
    go_loopw [3, 15] (fun x i w' => KyLoop W W n.its x i w') (fun _ i _ => N - (intOf i).toNat)
    case atStart => exact HM.out
    case round =>
      clear HM
      obtain ⟨k, hk, rfl, hrow, hB⟩ := hrel
      by_cases hlt : k < N
      · have hkl : k < n.its.length := by rw [← HN.out]; exact hlt
        obtain ⟨lb, lo, rfl, hat⟩ := HI.out.some (by omega)
        obtain ⟨cs, hc, a, b, rfl, ha, hb⟩ := hat k hkl
        obtain ⟨e0, e1⟩ := (hc.below hB).two
        simp only [KItem] at e0 e1
        have hnx : (n.its.take (k + 1)).map (·.k) = (n.its.take k).map (·.k) ++ [n.its[k].k] := by rw [List.take_succ_eq_append_getElem hkl, List.map_append]; rfl
        have hlen : ((n.its.take k).map (·.k)).length = k := by rw [List.length_map, List.length_take]; omega
        obtain ⟨qa, ca, rfl, -⟩ := ha.any
        obtain ⟨qb, cb, rfl, -⟩ := hb.any
        obtain ⟨px, cx, rfl⟩ := hrow.shape hlen
        obtain ⟨cs', r1, r2, r3⟩ := hrow
        have hrow2 : KbRow W (wr.alloc (.cells #[.slice qa n.its[k].k.length ca, .slice qb n.its[k].v.length cb] 49)) (.slice px k cx) ((n.its.take k).map (·.k)) := ⟨cs', r1, r2.alloc _, r3⟩
        obtain ⟨p', c', w', hrun, hr', hb'⟩ := hrow2.push (by rw [hlen]; omega) (hB.alloc hB.size _) ha
        rw [hlen] at hrun hr'
        rw [World.size_alloc] at hrun
        have HNX : Hid (KyLoop W W n.its (.slice p' (k + 1) c') (.int .i64 (k + 1 : Nat)) w') := ⟨k + 1, by omega, rfl, by rw [hnx]; exact hr', hb'⟩
        have HRUN := Lib.hid hrun
        have HLT := Lib.hid hlt
        generalize n.its[k].k.length = l1 at *
        generalize n.its[k].v.length = l2 at *
        clear hrun hr' hb' hrow2 r1 r2 r3 ha hb hc hat hB hkl hnx hlen hk
        go_wp2_with (at_builtin; refine Lib.wpList_append_run _ rfl (.tmp 19) (.tmp 22) 36 36 rfl _ _ rfl rfl _ w' HRUN.out ?_)
        go_roundw
        case rel => exact HNX.out
        case measure => simp [intOf]; have := HLT.out; omega
      · have hkN : k = N := by have := HN.out; omega
        obtain ⟨p, c, rfl, hr⟩ := hrow.at_ hB
        rw [List.take_of_length_le (by rw [← HN.out]; omega)] at hr ⊢
        rw [← E.out] at hr ⊢
        have hl : (keysN n).length = N := by rw [E.out, List.length_map, ← HN.out]
        have HF2 : Hid (KeysTold w n (.returned (.slice p N c)) wr) := ⟨p, c, by rw [hl], hr, HB.out.trans (hB.mono HB.out.size)⟩
        rw [hl]
        clear hrow hB hlt hk hr hl
        subst hkN
        go_wp2
        go_ret
        exact HF2.out
structure PlAt (w : World) (v : Value) (deep : Nat) (least bound : List Nat) (a b : Value) : Prop where
  val : v = .agg #[.int .i64 (deep : Nat), a, b]
  least : Bytes w a least
  bound : Bytes w b bound
theorem PlAt.below {w w' : World} {v : Value} {deep : Nat} {least bound : List Nat} {a b : Value} (h : PlAt w v deep least bound a b) (hb : Below w.heap.size w w') : PlAt w' v deep least bound a b := ⟨h.val, h.least.below hb, h.bound.below hb⟩
set_option maxRecDepth 100000 in
theorem isAbove_any {w : World} {v kv a b : Value} {deep : Nat} {least bound k : List Nat} (h : PlAt w v deep least bound a b) (hk : Bytes w kv k) :
    Calls Tryz.prog 135 #[v, kv] w fun e w' => e = .returned (.bool (isLow k bound)) ∧ Below w.heap.size w w' := by
  have hv := h.val
  subst hv
  have hbo := (Below.refl w.heap.size w).alloc (Nat.le_refl _) (.cells #[.int .i64 (deep : Nat), a, b] 100)
  have HC := Lib.hid (compare_any kv b k bound _ (hk.below hbo) (h.bound.below hbo))
  have HE : Hid (decide (cmpN k bound < 0) = lessN k bound) := cmpN_less hk.small h.bound.small
  have HL : Hid (isLow k bound = (bound.isEmpty || lessN k bound)) := rfl
  have hbl : (bound.isEmpty) = decide (bound.length = 0) := by cases bound <;> simp
  have hb9 : (bound.length : Int) ≤ 9223372036854775807 := by have := h.bound.short; unfold maxLen at this; omega
  obtain ⟨qa, ca, rfl, -⟩ := h.least.any
  obtain ⟨qb, cb, rfl, -⟩ := h.bound.any
  obtain ⟨qk, ck, rfl, -⟩ := hk.any
  rw [hbl] at HL
  rw [← HE.out] at HL
  have HB := Lib.hid hbo
  clear h hk hbo hbl HE
  generalize cmpN k bound = x at *
  generalize k.length = l1 at *
  generalize bound.length = l2 at *
  generalize least.length = l3 at *
  rw [HL.out]
  clear HL
  by_cases h0 : l2 = 0
  · subst h0
    go_enter Tryz.func135, Tryz.ntmps135
    go_wp2
    go_ret
    exact ⟨by simp, HB.out⟩
  · have h0' : ((l2 : Int) == 0) = false := by simp; omega
    have h1 : decide (l2 = 0) = false := decide_eq_false h0
    rw [h1]
    clear h1 h0
    go_enter Tryz.func135, Tryz.ntmps135
    go_wp2_with fail
    refine HC.out.mono ?_
    rintro e w1 ⟨rfl, rfl⟩
    go_wp2
    go_ret
    exact ⟨by simp, HB.out⟩
end Go.Proofs.YtlagllhhahomlaaGreat.Sl.Nd
/- Trees: what the program's side and the document's both speak of. -/
namespace Go.By
open Go Go.RowKit
end Go.By
namespace Go.Proofs.YtlagllhhahomlaaGreat.Sl.Nd
open Go Go.RowKit Go.By
def TruthTold (w : World) (x : Bool) (z : Ending) (w' : World) : Prop := z = .returned (.bool x) ∧ Below w.heap.size w w'
end Go.Proofs.YtlagllhhahomlaaGreat.Sl.Nd
/- Trees in a program: whether a node keeps to its place; the place of a kid; findings. -/
namespace Go.By
open Go Go.RowKit
theorem keeps_root {n : Nd} {least bound : List Nat} : keeps n true least bound = true := rfl
theorem keeps_few {n : Nd} {least bound : List Nat} (h : (keysN n).length < 4) : keeps n false least bound = false := by
  unfold keeps; rw [decide_eq_false (by omega)]; rfl
theorem keeps_many {n : Nd} {least bound : List Nat} {m : Nat} (h : (keysN n).length = m + 1) (h4 : 4 ≤ (keysN n).length) :
    keeps n false least bound = (decide ((keysN n)[0]'(by omega) = least) && isLow ((keysN n)[m]'(by omega)) bound) := by
  unfold keeps
  rw [decide_eq_true h4, Bool.false_or, Bool.true_and]
  have e2 : (keysN n).getLast?.getD [] = (keysN n)[m]'(by omega) := by
    have h1 : (keysN n).length - 1 = m := by omega
    have h2 : (keysN n)[(keysN n).length - 1]? = (keysN n)[m]? := by rw [h1]
    rw [List.getLast?_eq_getElem?, h2, List.getElem?_eq_getElem (by omega)]; rfl
  rw [e2]
  congr 1
  rw [decide_eq_decide, List.head?_eq_getElem?, List.getElem?_eq_getElem (by omega), Option.some.injEq]
end Go.By
namespace Go.Proofs.YtlagllhhahomlaaGreat.Sl.Nd
open Go Go.RowKit Go.By
def PlCells (w : World) (g : Nat) (deep : Nat) (a b : Value) : Prop := w.heap[g]? = some (.cells #[.int .i64 (deep : Nat), a, b] 100 (0, 0))
set_option maxRecDepth 100000 in
set_option maxHeartbeats 40000000 in
theorem mayHave_any {w : World} {v nv a b : Value} {deep : Nat} {least bound : List Nat} {n : Nd} {pi pk pd : Option Addr} {ci ck cd : Nat} (h : PlAt w v deep least bound a b) (hn : IsNd w nv n pi ci pk ck pd cd) (h8 : n.its.length ≤ 8) :
    Calls Tryz.prog 100 #[v, nv] w (TruthTold w (keeps n (decide (deep = 1)) least bound)) := by
  obtain ⟨X, hX⟩ : ∃ X, X = keeps n (decide (deep = 1)) least bound := ⟨_, rfl⟩
  rw [← hX]
  have HX := Lib.hid hX
  clear hX
  have hv := h.val
  have hnv := hn.val
  subst hv hnv
  obtain ⟨W0, hW0⟩ : ∃ W, W = w.alloc (.cells #[.int .i64 (deep : Nat), a, b] 100) := ⟨_, rfl⟩
  obtain ⟨W, hW⟩ : ∃ W, W = W0.alloc (.cells #[.bool n.leaf, .slice pi n.its.length ci, .slice pk n.ks.length ck, .slice pd n.kids.length cd] 38) := ⟨_, rfl⟩
  have hb0 : Below w.heap.size w W0 := by rw [hW0]; exact (Below.refl w.heap.size w).alloc (Nat.le_refl _) _
  have hb1 : Below W0.heap.size W0 W := by rw [hW]; exact (Below.refl _ _).alloc (Nat.le_refl _) _
  have hb : Below w.heap.size w W := hb0.trans (hb1.mono hb0.size)
  have hz0 : W0.heap.size = w.heap.size + 1 := by rw [hW0]; simp
  have hpc : PlCells W w.heap.size deep a b := (hb1.block _ (by omega)).trans (by rw [hW0]; exact heap_alloc_new w _)
  have hnd : NdAt W (w.heap.size + 1) n pi ci pk ck pd cd := by rw [hW, ← hz0]; exact NdAt.new ..
  have HKY := Lib.hid (keysOf_any (hn.below hb) h8)
  have HWW : Hid (W = (w.alloc (.cells #[.int .i64 (deep : Nat), a, b] 100)).alloc (.cells #[.bool n.leaf, .slice pi n.its.length ci, .slice pk n.ks.length ck, .slice pd n.kids.length cd] 38)) := by unfold Hid; rw [hW, hW0]
  have HP := Lib.hid (h.below hb)
  have HB := Lib.hid hb; have HPC := Lib.hid hpc; have HND := Lib.hid hnd
  obtain ⟨qa, ca, rfl, -⟩ := h.least.any
  obtain ⟨qb, cb, rfl, -⟩ := h.bound.any
  clear h hn h8 hW hW0 hb0 hb1 hb hz0 hpc hnd
  obtain ⟨n0, n1, n2, n3⟩ := HND.out.cells
  go_enter Tryz.func100, Tryz.ntmps100
  go_wp2_with fail
  rw [← HWW.out]
  refine HKY.out.mono ?_
  rintro e w1 ⟨p, c, rfl, hr, hb1⟩
  have HB1 : Hid (Below w.heap.size w w1) := HB.out.trans (hb1.mono HB.out.size)
  have hpc1 : PlCells w1 w.heap.size deep (.slice qa least.length ca) (.slice qb bound.length cb) := (hb1.block _ (Array.getElem?_eq_some_iff.1 HPC.out).1).trans HPC.out
  have HP1 := Lib.hid (HP.out.below hb1)
  have c0 := cells_of hpc1 0
  have c1 := cells_of hpc1 1
  have c2 := cells_of hpc1 2
  simp only [List.getElem?_toArray, List.getElem?_cons_zero, List.getElem?_cons_succ] at c0 c1 c2
  have HR := Lib.hid hr
  have hL9 : ((keysN n).length : Int) ≤ 9223372036854775807 := by have := hr.le; have := hr.most; unfold maxLen at this; omega
  clear hr hb1 hpc1 HPC HP HKY n0 n1 n2 n3
  by_cases hd : deep = 1
  · have HF : Hid (TruthTold w X (.returned (.bool true)) w1.drew) := ⟨by rw [HX.out, decide_eq_true hd, keeps_root], HB1.out.drew⟩
    subst hd
    go_wp2
    go_region
    go_wp2
    go_ret
    exact HF.out
  · have hd' : ((deep : Int) == 1) = false := by simp; omega
    have HX2 : Hid (X = keeps n false least bound) := by unfold Hid; rw [HX.out, decide_eq_false hd]
    obtain ⟨L, hL⟩ : ∃ L, L = (keysN n).length := ⟨_, rfl⟩
    by_cases h4 : L < 4
    · have HF : Hid (TruthTold w X (.returned (.bool false)) w1.drew) := ⟨by rw [HX2.out, keeps_few (by omega)], HB1.out.drew⟩
      rw [← hL] at hL9 ⊢
      have h4' : decide ((4 : Int) ≤ L) = false := decide_eq_false (by omega)
      clear hL
      go_wp2
      go_region
      go_wp2
      go_ret
      exact HF.out
    · obtain ⟨m, hm⟩ : ∃ m, (keysN n).length = m + 1 := ⟨L - 1, by omega⟩
      have HKE := Lib.hid (keeps_many (least := least) (bound := bound) hm (by omega))
      obtain ⟨lb, lo, rfl, hat⟩ := HR.out.some (by omega)
      obtain ⟨cs, hc, x0, rfl, hx0⟩ := hat 0 (by omega)
      obtain ⟨cs', hc', x1, rfl, hx1⟩ := hat m (by omega)
      have e0 := hc.one
      have e1 := hc'.one
      simp only [KBytes, Nat.mul_one, Nat.add_zero] at e0 e1
      obtain ⟨q0, k0, rfl, -⟩ := hx0.any
      obtain ⟨q1, k1, rfl, -⟩ := hx1.any
      have HCS : Hid (∀ W : World, Below w1.heap.size w1 W → W.cell? ⟨w.heap.size, 0, none⟩ = some (.int .i64 (deep : Nat)) ∧ W.cell? ⟨w.heap.size, 1, none⟩ = some (.slice qa least.length ca) ∧ W.cell? ⟨w.heap.size, 2, none⟩ = some (.slice qb bound.length cb) ∧ W.cell? ⟨lb, lo, none⟩ = some (.slice q0 ((keysN n)[0]'(by omega)).length k0) ∧ W.cell? ⟨lb, lo + m, none⟩ = some (.slice q1 ((keysN n)[m]'(by omega)).length k1)) := fun W hW =>
        ⟨(hW.cell (p := ⟨w.heap.size, 0, none⟩) (block_lt_of_cell c0)).trans c0, (hW.cell (p := ⟨w.heap.size, 1, none⟩) (block_lt_of_cell c1)).trans c1, (hW.cell (p := ⟨w.heap.size, 2, none⟩) (block_lt_of_cell c2)).trans c2, (hW.cell (p := ⟨lb, lo, none⟩) (block_lt_of_cell e0)).trans e0, (hW.cell (p := ⟨lb, lo + m, none⟩) (block_lt_of_cell e1)).trans e1⟩
      have HEQ : Hid (∀ W : World, Below w1.heap.size w1 W → Calls Tryz.prog 134 #[.slice q0 ((keysN n)[0]'(by omega)).length k0, .slice qa least.length ca] W fun e w' => e = .returned (.bool (decide ((keysN n)[0]'(by omega) = least))) ∧ W = w') := fun W hb =>
        (equal_any _ _ _ _ W (hx0.below hb) (HP1.out.least.below hb)).mono fun e w' ⟨h1, h2⟩ => ⟨h1, by first | exact h2 | exact h2.symm⟩
      have HAB : Hid (∀ W : World, Below w1.heap.size w1 W → Calls Tryz.prog 135 #[.agg #[.int .i64 (deep : Nat), .slice qa least.length ca, .slice qb bound.length cb], .slice q1 ((keysN n)[m]'(by omega)).length k1] W fun e w' => e = .returned (.bool (isLow ((keysN n)[m]'(by omega)) bound)) ∧ Below W.heap.size W w') := fun W hb => isAbove_any (HP1.out.below hb) (hx1.below hb)
      clear hc hc' hx0 hx1 hat HR HP1
      generalize (keysN n)[0]'(by omega) = K0 at *
      generalize (keysN n)[m]'(by omega) = K1 at *
      have hm' : (L : Int) - 1 = m := by omega
      have hmL : (m : Int) < L := by omega
      have h4' : decide ((4 : Int) ≤ L) = true := decide_eq_true (by omega)
      have h4n : 0 < L := by omega
      have h0L : (0 : Int) < L := by omega
      rw [← hL] at hL9 ⊢
      clear hL hm h4
      generalize K0.length = l0 at *
      generalize K1.length = l1 at *
      generalize least.length = l2 at *
      generalize bound.length = l3 at *
      cases hq : decide (K0 = least) with
      | false =>
        rw [hq] at HKE HEQ
        have HF : Hid (∀ W, Below w.heap.size w W → TruthTold w X (.returned (.bool false)) W) := fun W hW => ⟨by rw [HX2.out, HKE.out]; rfl, hW⟩
        clear HKE hq
        go_wp2_with fail
        rename_i Kc hKc
        refine wp_region_left (by kernel_rfl)
          [.is (.pointer (some ⟨w.heap.size, 0, none⟩)), .is (.int .i64 (deep : Nat)), .is (.bool false), .is (.bool false), .is (.slice (some ⟨lb, lo, none⟩) L c), .is (.int .i64 (L : Nat)), .is (.bool true), .is (.bool true), .is (.slice (some ⟨lb, lo, none⟩) L c), .is (.pointer (some ⟨lb, lo, none⟩)), .is (.slice q0 l0 k0), .is (.pointer (some ⟨w.heap.size, 1, none⟩)), .is (.slice qa l2 ca), .is (.bool false), .is (.bool false), .is (.bool false), .is undef, .is undef, .is undef, .is undef, .is undef, .is undef, .is undef, .is undef, .is (.bool false), .is (.bool false), .is (.bool false)]
          [[],[0],[1],[2],[3],[3,4],[3,5],[3,6],[7],[7,8],[7,9],[7],[7,11],[7,10,12],[3,7,13],[3,14],[15],[15],[15],[15,18],[15,19],[15,17,20],[15,21],[15,16,22],[3,15,23],[3,24],[25]] (by kernel_rfl) (by rfl) ?_ ?_
        · repeat' (first | exact LeftOps.nil | refine LeftOps.cons ?_ ?_)
          all_goals (intro wz hwz; clear hKc; try ((repeat (refine withLeft_is rfl rfl ?_)); (with_reducible refine withLeft_nil ?_); (try simp only [Act.put, arr0, arr1, arr2]); (try first | refine lft_run rfl rfl ?_ | refine lft_want rfl rfl rfl rfl ?_)))
          · unfold LftRun; go_wp2; exact lend
          · obtain ⟨c0, c1, c2, e0, e1⟩ := HCS.out wz hwz; unfold LftRun; go_wp2; exact lend
          · unfold LftRun; go_wp2; exact lend
          · exact lmv
          · exact lmv
          · unfold LftRun; go_wp2; exact lend
          · unfold LftRun; go_wp2; exact lend
          · exact lmv
          · exact lmv
          · unfold LftRun; go_wp2; exact lend
          · obtain ⟨c0, c1, c2, e0, e1⟩ := HCS.out wz hwz; unfold LftRun; go_wp2; exact lend
          · unfold LftRun; go_wp2; exact lend
          · obtain ⟨c0, c1, c2, e0, e1⟩ := HCS.out wz hwz; unfold LftRun; go_wp2; exact lend
          · unfold LftRun; go_wp2_with fail; refine (HEQ.out wz hwz).mono ?_; rintro e wq ⟨rfl, rfl⟩; go_wp2; exact lend
          · exact lpk
          · exact lmv
          · exact lsk
          · exact lsk
          · exact lsk
          · exact lsk
          · exact lsk
          · exact lsk
          · exact lsk
          · exact lsk
          · exact lpk
          · exact lpk
          · exact las
        intro wz hwz
        refine le8 (le8 (le8 (LeftEnd.is (LeftEnd.is (LeftEnd.is (LeftEnd.nil ?_))))))
        simp only [Act.put, arr0, arr1, arr2]
        refine hKc _ _ ?_
        clear hKc Kc
        go_wp2
        go_ret
        exact HF.out _ (HB1.out.trans (hwz.mono HB1.out.size))
      | true =>
        rw [hq] at HKE HEQ
        have HF : Hid (∀ W, Below w.heap.size w W → TruthTold w X (.returned (.bool (isLow K1 bound))) W) := fun W hW => ⟨by rw [HX2.out, HKE.out, Bool.true_and], hW⟩
        clear HKE hq
        go_wp2_with fail
        rename_i Kc hKc
        refine wp_region_left (by kernel_rfl)
          [.is (.pointer (some ⟨w.heap.size, 0, none⟩)), .is (.int .i64 (deep : Nat)), .is (.bool false), .is (.bool false), .is (.slice (some ⟨lb, lo, none⟩) L c), .is (.int .i64 (L : Nat)), .is (.bool true), .is (.bool true), .is (.slice (some ⟨lb, lo, none⟩) L c), .is (.pointer (some ⟨lb, lo, none⟩)), .is (.slice q0 l0 k0), .is (.pointer (some ⟨w.heap.size, 1, none⟩)), .is (.slice qa l2 ca), .is (.bool true), .is (.bool true), .is (.bool true), .is (.agg #[.int .i64 (deep : Nat), .slice qa l2 ca, .slice qb l3 cb]), .is (.slice (some ⟨lb, lo, none⟩) L c), .is (.slice (some ⟨lb, lo, none⟩) L c), .is (.int .i64 (L : Nat)), .is (.int .i64 (m : Nat)), .is (.pointer (some ⟨lb, lo + m, none⟩)), .is (.slice q1 l1 k1), .is (.bool (isLow K1 bound)), .is (.bool (isLow K1 bound)), .is (.bool (isLow K1 bound)), .is (.bool (isLow K1 bound))]
          [[],[0],[1],[2],[3],[3,4],[3,5],[3,6],[7],[7,8],[7,9],[7],[7,11],[7,10,12],[3,7,13],[3,14],[15],[15],[15],[15,18],[15,19],[15,17,20],[15,21],[15,16,22],[3,15,23],[3,24],[25]] (by kernel_rfl) (by rfl) ?_ ?_
        · repeat' (first | exact LeftOps.nil | refine LeftOps.cons ?_ ?_)
          all_goals (intro wz hwz; clear hKc; try ((repeat (refine withLeft_is rfl rfl ?_)); (with_reducible refine withLeft_nil ?_); (try simp only [Act.put, arr0, arr1, arr2]); (try first | refine lft_run rfl rfl ?_ | refine lft_want rfl rfl rfl rfl ?_)))
          · unfold LftRun; go_wp2; exact lend
          · obtain ⟨c0, c1, c2, e0, e1⟩ := HCS.out wz hwz; unfold LftRun; go_wp2; exact lend
          · unfold LftRun; go_wp2; exact lend
          · exact lmv
          · exact lmv
          · unfold LftRun; go_wp2; exact lend
          · unfold LftRun; go_wp2; exact lend
          · exact lmv
          · exact lmv
          · unfold LftRun; go_wp2; exact lend
          · obtain ⟨c0, c1, c2, e0, e1⟩ := HCS.out wz hwz; unfold LftRun; go_wp2; exact lend
          · unfold LftRun; go_wp2; exact lend
          · obtain ⟨c0, c1, c2, e0, e1⟩ := HCS.out wz hwz; unfold LftRun; go_wp2; exact lend
          · unfold LftRun; go_wp2_with fail; refine (HEQ.out wz hwz).mono ?_; rintro e wq ⟨rfl, rfl⟩; go_wp2; exact lend
          · exact lpk
          · exact lmv
          · obtain ⟨c0, c1, c2, e0, e1⟩ := HCS.out wz hwz; unfold LftRun; go_wp2; exact lend
          · exact lmv
          · exact lmv
          · unfold LftRun; go_wp2; exact lend
          · unfold LftRun; go_wp2; exact lend
          · unfold LftRun; go_wp2; exact lend
          · obtain ⟨c0, c1, c2, e0, e1⟩ := HCS.out wz hwz; unfold LftRun; go_wp2; exact lend
          · unfold LftRun; go_wp2_with fail; refine (HAB.out wz hwz).mono ?_; rintro e wq ⟨rfl, hbq⟩; go_wp2; exact ⟨rfl, rfl, rfl, hbq⟩
          · exact lpk
          · exact lpk
          · exact las
        intro wz hwz
        refine le8 (le8 (le8 (LeftEnd.is (LeftEnd.is (LeftEnd.is (LeftEnd.nil ?_))))))
        simp only [Act.put, arr0, arr1, arr2]
        refine hKc _ _ ?_
        clear hKc Kc
        go_wp2
        go_ret
        exact HF.out _ (HB1.out.trans (hwz.mono HB1.out.size))
end Go.Proofs.YtlagllhhahomlaaGreat.Sl.Nd
/- Trees in a program: the place of a kid; findings put together. -/
namespace Go.Proofs.YtlagllhhahomlaaGreat.Sl.Nd
open Go Go.RowKit Go.By
def KidPl (w : World) (p : Option Addr) (i L : Nat) (bv a b : Value) : Prop := ∃ lb lo, p = some ⟨lb, lo, none⟩ ∧ w.cell? ⟨lb, lo + i, none⟩ = some a ∧ (if i + 1 < L then w.cell? ⟨lb, lo + (i + 1), none⟩ = some b else b = bv)
def nextB (ks : List (List Nat)) (i : Nat) (bound : List Nat) : List Nat := if h : i + 1 < ks.length then ks[i + 1] else bound
def ErrRow (v : Value) (w : World) : Prop := ∃ g, v = .slice (some ⟨g, 0, none⟩) 2 2 ∧ w.cell? ⟨g, 0, none⟩ = some (.int .i64 0) ∧ w.cell? ⟨g, 1, none⟩ = some (.int .i64 0)
theorem ErrRow.lasts (v : Value) (w w' : World) (h : ErrRow v w) (hb : Below w.heap.size w w') : ErrRow v w' := by
  obtain ⟨g, rfl, h0, h1⟩ := h
  exact ⟨g, rfl, (hb.cell (p := ⟨g, 0, none⟩) (block_lt_of_cell h0)).trans h0, (hb.cell (p := ⟨g, 1, none⟩) (block_lt_of_cell h1)).trans h1⟩
theorem ErrRow.new (w : World) : ErrRow (.slice (some ⟨w.heap.size, 0, none⟩) 2 2) (w.alloc (.cells #[.int .i64 0, .int .i64 0] 31)) := by
  have h := heap_alloc_new w (.cells #[.int .i64 0, .int .i64 0] 31)
  exact ⟨_, rfl, cells_of h 0, cells_of h 1⟩
end Go.Proofs.YtlagllhhahomlaaGreat.Sl.Nd
/- Places in a program: where the kids of a node lie. -/
namespace Go.Proofs.YtlagllhhahomlaaGreat.Sl.Nd
open Go Go.RowKit Go.By
def plCells (deep : Nat) (t : Value × Value) : List Value := [.int .i64 (deep : Nat), t.1, t.2]
set_option maxRecDepth 1000000 in
theorem info_place : ∃ i, Tryz.prog.info? 100 = some i ∧ i.zero = some (.agg #[.int .i64 0, .slice none 0 0, .slice none 0 0]) ∧ i.size = 3 ∧ i.bytes = 56 := ⟨_, rfl, rfl, rfl, rfl⟩
def PlRow (w0 w : World) (v : Value) (deep : Nat) (p : Option Addr) (L : Nat) (bv : Value) (k : Nat) : Prop :=
  ∃ ts : List (Value × Value), ts.length = k ∧ w.ownsRow w0.heap.size 100 3 v k (ts.flatMap (plCells deep)) ∧ ∀ j (h : j < ts.length), KidPl w0 p j L bv ts[j].1 ts[j].2
theorem PlRow.push {w0 w : World} {v x y bv : Value} {deep k L : Nat} {p : Option Addr} (h : PlRow w0 w v deep p L bv k) (hn : k ≤ 1000000) (hB : Below w0.heap.size w0 w) (hk : KidPl w0 p k L bv x y) (hx : x.oneCell' = true) (hy : y.oneCell' = true) :
    ∃ p' c' w', (Builtin.append_ #[152, 152] 152 #[v, .slice (some ⟨w.heap.size, 0, none⟩) 1 1]).run Tryz.prog (w.alloc (.cells #[.int .i64 (deep : Nat), x, y] 100)) = .ok (.slice p' (k + 1) c') w' ∧ PlRow w0 w' (.slice p' (k + 1) c') deep p L bv (k + 1) ∧ Below w0.heap.size w0 w' := by
  obtain ⟨ts, h1, h2, h3⟩ := h
  obtain ⟨i, hi, hz, hs, hby⟩ := info_place
  obtain ⟨v', w', hr, ho, hg⟩ := run_append_grows (P := Tryz.prog) (w := w.alloc (.cells #[.int .i64 (deep : Nat), x, y] 100)) 152 (t := 152) (e := 100) (by kernel_rfl) hi hz hs hby rfl (by decide) w0.heap.size v k (ts.flatMap (plCells deep)) (h2.alloc _) w.heap.size 0 1 1 [.int .i64 (deep : Nat), x, y] rfl (by
    intro j u hu
    rw [Nat.zero_add]
    have := cells_of (heap_alloc_new w (.cells #[.int .i64 (deep : Nat), x, y] 100)) j
    rw [this]
    simpa using hu) (by simp [hx, hy]; rfl) (by unfold maxLen; omega) (by omega) (by have := hB.size; simp; omega)
  have hga := (Grows.alloc w v (.cells #[.int .i64 (deep : Nat), x, y] 100)).trans hg
  obtain ⟨p', c', rfl, -⟩ := owns_at ho (by decide)
  refine ⟨p', c', w', hr, ⟨ts ++ [(x, y)], by simp [h1], by simpa [plCells] using ho, fun j hj => ?_⟩, hga.below hB hB.size (fun j hj => (h2.lt j hj).1)⟩
  by_cases hlt : j < ts.length
  · rw [List.getElem_append_left hlt]
    exact h3 j hlt
  · obtain rfl : j = ts.length := by simp at hj; omega
    rw [List.getElem_append_right (Nat.le_refl _)]
    simp only [Nat.sub_self, List.getElem_singleton]
    rw [h1]
    exact hk
theorem flat_three {α : Type} {f : α → List Value} (hf : ∀ x, (f x).length = 3) : ∀ {xs : List α} {j i : Nat} (h : j < xs.length), i < 3 → (xs.flatMap f)[j * 3 + i]? = (f xs[j])[i]?
  | x :: xs, 0, i, _, hi => by
    rw [List.flatMap_cons, List.getElem?_append_left (by rw [hf]; omega)]; simp
  | x :: xs, j + 1, i, h, hi => by
    rw [List.flatMap_cons, List.getElem?_append_right (by rw [hf]; omega), hf]
    have e : (j + 1) * 3 + i - 3 = j * 3 + i := by omega
    rw [e, flat_three hf (by simpa using h) hi, List.getElem_cons_succ]
def KidsTold (w : World) (deep : Nat) (pk : Option Addr) (L : Nat) (bv : Value) (z : Ending) (w' : World) : Prop :=
  ∃ p c, z = .returned (.slice p L c) ∧ L ≤ c ∧ c ≤ maxLen ∧ (∀ j, j < L → ∃ g x y, p = some ⟨g, 0, none⟩ ∧ w.heap.size ≤ g ∧ g < w'.heap.size ∧ w'.cell? ⟨g, j * 3, none⟩ = some (.int .i64 (deep + 1 : Nat)) ∧ w'.cell? ⟨g, j * 3 + 1, none⟩ = some x ∧ w'.cell? ⟨g, j * 3 + 2, none⟩ = some y ∧ KidPl w pk j L bv x y) ∧ Below w.heap.size w w'
theorem KidPl.back {w w' : World} {p : Option Addr} {i L : Nat} {bv a b : Value} (h : KidPl w' p i L bv a b) (hb : Below w.heap.size w w') (hp : ∀ g, p = some g → g.block < w.heap.size) : KidPl w p i L bv a b := by
  obtain ⟨lb, lo, rfl, h1, h2⟩ := h
  have hl := hp _ rfl
  refine ⟨lb, lo, rfl, (hb.cell (p := ⟨lb, lo + i, none⟩) hl).symm.trans h1, ?_⟩
  split at h2
  · rename_i hlt; rw [if_pos hlt]; exact (hb.cell (p := ⟨lb, lo + (i + 1), none⟩) hl).symm.trans h2
  · rename_i hlt; rw [if_neg hlt]; exact h2
theorem PlRow.told {w0 w wr : World} {v bv : Value} {deep L : Nat} {p : Option Addr} (h : PlRow w wr v (deep + 1) p L bv L) (hb0 : Below w0.heap.size w0 w) (hb : Below w.heap.size w wr) (hp : 0 < L → ∀ g, p = some g → g.block < w0.heap.size) : ∃ q c, v = .slice q L c ∧ KidsTold w0 deep p L bv (.returned (.slice q L c)) wr := by
  obtain ⟨ts, h1, h2, h3⟩ := h
  obtain ⟨q, c, rfl, q1, q2, q3⟩ := owns_at h2 (by decide)
  refine ⟨q, c, rfl, q, c, rfl, q1, q2, fun j hj => ?_, hb0.trans (hb.mono hb0.size)⟩
  have hj' : j < ts.length := by omega
  have f := fun i (hi : i < 3) => flat_three (f := plCells (deep + 1)) (fun _ => rfl) hj' hi
  obtain ⟨g, rfl, c0⟩ := q3 (j * 3 + 0) _ ((f 0 (by decide)).trans (by rfl))
  obtain ⟨g1, e1, c1⟩ := q3 (j * 3 + 1) _ ((f 1 (by decide)).trans (by rfl))
  obtain ⟨g2, e2, c2⟩ := q3 (j * 3 + 2) _ ((f 2 (by decide)).trans (by rfl))
  cases e1; cases e2
  simp only [Nat.zero_add, Nat.add_zero] at c0 c1 c2
  have ho := h2.lt g rfl
  exact ⟨g, _, _, rfl, Nat.le_trans hb0.size ho.1, ho.2, c0, c1, c2, (h3 j hj').back hb0 (hp (by omega))⟩
def KsLoop (w0 : World) (deep : Nat) (p : Option Addr) (L : Nat) (bv : Value) (x i : Value) (wr : World) : Prop :=
  ∃ k : Nat, k ≤ L ∧ i = .int .i64 k ∧ PlRow w0 wr x deep p L bv k ∧ Below w0.heap.size w0 wr
theorem PlRow.shape {w0 w : World} {v : Value} {deep : Nat} {p : Option Addr} {L : Nat} {bv : Value} {k : Nat} (h : PlRow w0 w v deep p L bv k) : ∃ q c, v = .slice q k c := by
  obtain ⟨cs, _, ho, _⟩ := h
  obtain ⟨p, c, h, -⟩ := owns_at ho (by decide)
  exact ⟨p, c, h⟩
set_option maxRecDepth 100000 in
set_option maxHeartbeats 1000000 in
theorem kids_any {w : World} {v nv a b : Value} {deep : Nat} {least bound : List Nat} {n : Nd} {pi pk pd : Option Addr} {ci ck cd : Nat} (h : PlAt w v deep least bound a b) (hn : IsNd w nv n pi ci pk ck pd cd) (hd : deep < 1000) (hN : n.ks.length ≤ 1000000) :
    Calls Tryz.prog 74 #[v, nv] w (KidsTold w deep pk n.ks.length b) := by
  have hv := h.val
  have hnv := hn.val
  subst hv hnv
  obtain ⟨W0, hW0⟩ : ∃ W, W = w.alloc (.cells #[.int .i64 (deep : Nat), a, b] 100) := ⟨_, rfl⟩
  obtain ⟨W, hW⟩ : ∃ W, W = W0.alloc (.cells #[.bool n.leaf, .slice pi n.its.length ci, .slice pk n.ks.length ck, .slice pd n.kids.length cd] 38) := ⟨_, rfl⟩
  have hb0 : Below w.heap.size w W0 := by rw [hW0]; exact (Below.refl w.heap.size w).alloc (Nat.le_refl _) _
  have hb1 : Below W0.heap.size W0 W := by rw [hW]; exact (Below.refl _ _).alloc (Nat.le_refl _) _
  have hb : Below w.heap.size w W := hb0.trans (hb1.mono hb0.size)
  have hz0 : W0.heap.size = w.heap.size + 1 := by rw [hW0]; simp
  have hpc : PlCells W w.heap.size deep a b := (hb1.block _ (by omega)).trans (by rw [hW0]; exact heap_alloc_new w _)
  have hnd : NdAt W (w.heap.size + 1) n pi ci pk ck pd cd := by rw [hW, ← hz0]; exact NdAt.new ..
  have HWW : Hid (W = (w.alloc (.cells #[.int .i64 (deep : Nat), a, b] 100)).alloc (.cells #[.bool n.leaf, .slice pi n.its.length ci, .slice pk n.ks.length ck, .slice pd n.kids.length cd] 38)) := by unfold Hid; rw [hW, hW0]
  have HK := Lib.hid (hn.ks.below hb)
  have HB := Lib.hid hb; have HPC := Lib.hid hpc; have HND := Lib.hid hnd
  have HPL : Hid (0 < n.ks.length → ∀ g, pk = some g → g.block < w.heap.size) := fun h0 g hg => by
    obtain ⟨lb, lo, rfl, hat⟩ := hn.ks.some h0
    obtain ⟨cs, hc, x0, rfl, -⟩ := hat 0 h0
    cases hg
    exact block_lt_of_cell hc.one
  obtain ⟨N, hNN⟩ : ∃ N, N = n.ks.length := ⟨_, rfl⟩
  have HN := Lib.hid hNN
  have hN6 : (N : Int) ≤ 1000000 := by omega
  obtain ⟨qa, ca, rfl, -⟩ := h.least.any
  obtain ⟨qb, cb, rfl, -⟩ := h.bound.any
  have hwd : IntKind.i64.wrap ((deep : Int) + 1) = (deep + 1 : Nat) := by rw [IntKind.wrap_i64]; omega
  obtain ⟨D, hD⟩ : ∃ D, D = deep + 1 := ⟨_, rfl⟩
  rw [← hD] at hwd
  have HD := Lib.hid hD
  clear h hn hW hW0 hb0 hb1 hb hz0 hpc hnd hN hd hD
  have HLP : Hid (KsLoop W D pk N (.slice qb bound.length cb) (.slice none 0 0) (.int .i64 (0 : Nat)) W) := ⟨0, Nat.zero_le _, rfl, ⟨[], rfl, World.ownsRow_nil _ _ _ _, fun j hj => absurd hj (Nat.not_lt_zero _)⟩, Below.refl _ _⟩
  obtain ⟨n0, n1, n2, n3⟩ := HND.out.cells
  rw [← hNN] at n2 HWW ⊢
  clear hNN
  generalize bound.length = lb at *
  generalize least.length = la at *
  go_enter Tryz.func74, Tryz.ntmps74
  go_wp2
  rw [← HWW.out]
  go_loopw [5, 12] (fun x i w' => KsLoop W D pk N (.slice qb lb cb) x i w') (fun _ i _ => N - (intOf i).toNat)
  case atStart => exact HLP.out
  case round =>
    clear HLP n0 n1 n2 n3
    obtain ⟨k, hk, rfl, hrow, hB⟩ := hrel
    obtain ⟨px, cx, rfl⟩ := hrow.shape
    by_cases hlt : k < N
    · have hkl : k < n.ks.length := by rw [← HN.out]; exact hlt
      have hpc1 : PlCells wr w.heap.size deep (.slice qa la ca) (.slice qb lb cb) := (hB.block _ (Array.getElem?_eq_some_iff.1 HPC.out).1).trans HPC.out
      have c0 := cells_of hpc1 0
      have c1 := cells_of hpc1 1
      have c2 := cells_of hpc1 2
      simp only [List.getElem?_toArray, List.getElem?_cons_zero, List.getElem?_cons_succ] at c0 c1 c2
      obtain ⟨n0, n1, n2, n3⟩ := (HND.out.below hB).cells
      rw [← HN.out] at n2
      obtain ⟨b1, o1, rfl, hat⟩ := HK.out.some (by omega)
      obtain ⟨cs, hc, x0, rfl, hx0⟩ := hat k hkl
      have e0' := hc.one
      have e0 := (hc.below hB).one
      simp only [KBytes, Nat.mul_one] at e0 e0'
      obtain ⟨q0, k0, rfl, -⟩ := hx0.any
      generalize n.ks[k].length = l0 at *
      have HROW := Lib.hid hrow; have HBB := Lib.hid hB; have HLT := Lib.hid hlt
      have hki : (k : Int) < N := by omega
      have hwi : IntKind.i64.wrap ((k : Int) + 1) = (k + 1 : Nat) := by rw [IntKind.wrap_i64]; omega
      obtain ⟨J, hJ⟩ : ∃ J, J = k + 1 := ⟨_, rfl⟩
      have HJ := Lib.hid hJ
      by_cases hlt2 : k + 1 < N
      · have hkl2 : k + 1 < n.ks.length := by rw [← HN.out]; exact hlt2
        obtain ⟨cs', hc', x1, rfl, hx1⟩ := hat (k + 1) hkl2
        have e1' := hc'.one
        have e1 := (hc'.below hB).one
        simp only [KBytes, Nat.mul_one] at e1 e1'
        obtain ⟨q1, k1, rfl, -⟩ := hx1.any
        generalize n.ks[k + 1].length = l1 at *
        obtain ⟨p', c', w', hrun, hr', hb'⟩ := hrow.push (x := .slice q0 l0 k0) (y := .slice q1 l1 k1) (by omega) hB ⟨b1, o1, rfl, e0', by rw [if_pos hlt2]; exact e1'⟩ rfl rfl
        have HNX : Hid (KsLoop W D (some ⟨b1, o1, none⟩) N (.slice qb lb cb) (.slice p' J c') (.int .i64 J) w') := by rw [hJ]; exact ⟨k + 1, by omega, rfl, hr', hb'⟩
        rw [← hJ] at hwi e1 hrun
        have hJi : (J : Int) < N := by omega
        have HRUN := Lib.hid hrun
        clear hJ hrun hr' hb' hrow hx0 hx1 hc hc' hat hB hkl hkl2 hk hlt hlt2 e0' e1' hpc1
        go_wp2_with (at_builtin; refine Lib.wpList_append_run _ rfl (.tmp 31) (.tmp 38) 152 152 rfl _ _ rfl rfl _ w' HRUN.out ?_)
        go_roundw
        case rel => exact HNX.out
        case measure => simp [intOf]; have := HLT.out; have := HJ.out; omega
      · obtain ⟨p', c', w', hrun, hr', hb'⟩ := hrow.push (x := .slice q0 l0 k0) (y := .slice qb lb cb) (by omega) hB ⟨b1, o1, rfl, e0', by rw [if_neg hlt2]⟩ rfl rfl
        have HNX : Hid (KsLoop W D (some ⟨b1, o1, none⟩) N (.slice qb lb cb) (.slice p' J c') (.int .i64 J) w') := by rw [hJ]; exact ⟨k + 1, by omega, rfl, hr', hb'⟩
        rw [← hJ] at hwi hrun
        have hJi : ¬ (J : Int) < N := by omega
        have HRUN := Lib.hid hrun
        clear hJ hrun hr' hb' hrow hx0 hc hat hB hkl hk hlt hlt2 e0' hpc1
        go_wp2_with (at_builtin; refine Lib.wpList_append_run _ rfl (.tmp 31) (.tmp 38) 152 152 rfl _ _ rfl rfl _ w' HRUN.out ?_)
        go_roundw
        case rel => exact HNX.out
        case measure => simp [intOf]; have := HLT.out; have := HJ.out; omega
    · have hkN : k = N := by omega
      subst hkN
      rw [HD.out] at hrow
      obtain ⟨q, c, hq, ht⟩ := hrow.told HB.out hB (by rw [HN.out]; exact HPL.out)
      cases hq
      have HF := Lib.hid ht
      clear ht hrow hB hlt hk
      go_wp2
      go_ret
      exact HF.out
theorem root_ret {tmps : Array Value} {w : World} {A : Nat} {cs : Array Value} (hp : tmps.getD 0 undef = .pointer (some ⟨A, 0, none⟩)) (hg : w.heap[A]? = some (.cells cs 100 (0, 0))) (hc : cs.size = 3) :
    (results Tryz.f43 tmps).run Tryz.prog w = .ok (.agg cs) w := by
  have hi : (Tryz.prog.info? 100).map (·.size) = some cs.size := by rw [hc]; kernel_rfl
  have hq : (Tryz.prog.underlying 100).map (fun d => match d with | .struct _ | .array _ _ => true | _ => false) = some true := by kernel_rfl
  obtain ⟨d, hu, hd⟩ := Option.map_eq_some_iff.1 hq
  exact results_cell_row (p := 0) (ty := 100) (by kernel_rfl) tmps w A 100 cs (0, 0) d hp hg hu (by cases d <;> simp_all) hi
set_option maxRecDepth 100000 in
theorem root_any (w : World) : Calls Tryz.prog 43 #[] w fun e w' => e = .returned (.agg #[.int .i64 1, .slice none 0 0, .slice none 0 0]) ∧ Below w.heap.size w w' := by
  go_enter Tryz.func43, Tryz.ntmps43
  go_wp2
  exact bodyPost_ret (root_ret rfl (heap_alloc_new w _) rfl) rfl ⟨rfl, (Below.refl _ _).alloc (Nat.le_refl _) _⟩
end Go.Proofs.YtlagllhhahomlaaGreat.Sl.Nd
/- Batches in a program: rows and parts. -/
namespace Go.Proofs.YtlagllhhahomlaaGreat.Sl.Nd
open Go Go.RowKit Go.By Lf
theorem cell_ret2 {P : Program} {fn : Func} {p u : Tmp} {ty : TypeId} {n : Nat} (hr : fn.results = #[.cell p ty, .tmp u]) (hi0 : (P.info? ty).map (·.size) = some n)
    (hq : (P.underlying ty).map (fun d => match d with | .struct _ | .array _ _ => true | _ => false) = some true) {tmps : Array Value} {w : World} {A : Nat} {cs : Array Value} {x : Value} (hp : tmps.getD p undef = .pointer (some ⟨A, 0, none⟩)) (hx : tmps.getD u undef = x)
    (hg : w.heap[A]? = some (.cells cs ty (0, 0))) (hc : cs.size = n) : (results fn tmps).run P w = .ok (.tuple #[.agg cs, x]) w := by
  have hi : (P.info? ty).map (·.size) = some cs.size := by rw [hc]; exact hi0
  obtain ⟨d, hu, hd⟩ := Option.map_eq_some_iff.1 hq
  rw [results_cell_tmp hr, hp, hx]
  have := run_loadVar_row (P := P) w A ty ty cs (0, 0) d hg hu (by cases d <;> simp_all) hi
  simp [asAddr, this, Result.andThen]
theorem cell_ret1 {P : Program} {fn : Func} {p : Tmp} {ty : TypeId} {n : Nat} (hr : fn.results = #[.cell p ty]) (hi0 : (P.info? ty).map (·.size) = some n)
    (hq : (P.underlying ty).map (fun d => match d with | .struct _ | .array _ _ => true | _ => false) = some true) {tmps : Array Value} {w : World} {A : Nat} {cs : Array Value} (hp : tmps.getD p undef = .pointer (some ⟨A, 0, none⟩))
    (hg : w.heap[A]? = some (.cells cs ty (0, 0))) (hc : cs.size = n) : (results fn tmps).run P w = .ok (.agg cs) w := by
  have hi : (P.info? ty).map (·.size) = some cs.size := by rw [hc]; exact hi0
  obtain ⟨d, hu, hd⟩ := Option.map_eq_some_iff.1 hq
  exact results_cell_row hr tmps w A ty cs (0, 0) d hp hg hu (by cases d <;> simp_all) hi
theorem two_set {w : World} {A : Nat} {T : TypeId} {a b x y : Value} (h : w.heap[A]? = some (.cells #[x, y] T (0, 0))) : ((w.setCell ⟨A, 0, none⟩ a).setCell ⟨A, 1, none⟩ b).heap[A]? = some (.cells #[a, b] T (0, 0)) :=
  heap_setCell_same _ A 1 _ _ b (heap_setCell_same _ A 0 _ _ a h)
def set8 (w : World) (A : Nat) (a b c d e f g h : Value) : World :=
  (((((((w.setCell ⟨A, 0, none⟩ a).setCell ⟨A, 1, none⟩ b).setCell ⟨A, 2, none⟩ c).setCell ⟨A, 3, none⟩ d).setCell ⟨A, 4, none⟩ e).setCell ⟨A, 5, none⟩ f).setCell ⟨A, 6, none⟩ g).setCell ⟨A, 7, none⟩ h
theorem set8_at {w : World} {A : Nat} {T : TypeId} {a b c d e f g h a' b' c' d' e' f' g' h' : Value} (hA : w.heap[A]? = some (.cells #[a', b', c', d', e', f', g', h'] T (0, 0))) :
    (set8 w A a b c d e f g h).heap[A]? = some (.cells #[a, b, c, d, e, f, g, h] T (0, 0)) := by
  have h0 := heap_setCell_same w A 0 _ _ a hA
  simp only [List.setIfInBounds_toArray, List.set_cons_zero] at h0
  have h1 := heap_setCell_same _ A 1 _ _ b h0
  simp only [List.setIfInBounds_toArray, List.set_cons_zero, List.set_cons_succ] at h1
  have h2 := heap_setCell_same _ A 2 _ _ c h1
  simp only [List.setIfInBounds_toArray, List.set_cons_zero, List.set_cons_succ] at h2
  have h3 := heap_setCell_same _ A 3 _ _ d h2
  simp only [List.setIfInBounds_toArray, List.set_cons_zero, List.set_cons_succ] at h3
  have h4 := heap_setCell_same _ A 4 _ _ e h3
  simp only [List.setIfInBounds_toArray, List.set_cons_zero, List.set_cons_succ] at h4
  have h5 := heap_setCell_same _ A 5 _ _ f h4
  simp only [List.setIfInBounds_toArray, List.set_cons_zero, List.set_cons_succ] at h5
  have h6 := heap_setCell_same _ A 6 _ _ g h5
  simp only [List.setIfInBounds_toArray, List.set_cons_zero, List.set_cons_succ] at h6
  have h7 := heap_setCell_same _ A 7 _ _ h h6
  simp only [List.setIfInBounds_toArray, List.set_cons_zero, List.set_cons_succ] at h7
  unfold set8
  exact h7
theorem set8_only (w : World) (A : Nat) (a b c d e f g h : Value) : Only A w (set8 w A a b c d e f g h) := by
  unfold set8
  exact   (((((((Only.set A 0 w a).trans (Only.set A 1 _ b)).trans (Only.set A 2 _ c)).trans (Only.set A 3 _ d)).trans (Only.set A 4 _ e)).trans (Only.set A 5 _ f)).trans (Only.set A 6 _ g)).trans (Only.set A 7 _ h)
theorem rowSize_any (w : World) (pi pk : Option Addr) (ni ci nk ck : Nat) (hn : ni + nk ≤ 1000000000) :
    Calls Tryz.prog 122 #[.agg #[.slice pi ni ci, .slice pk nk ck]] w fun e w' => e = .returned (.int .i64 (ni + nk : Nat)) ∧ Below w.heap.size w w' := by
  have hw : IntKind.i64.wrap ((ni : Int) + (nk : Int)) = (ni + nk : Nat) := by rw [IntKind.wrap_i64]; omega
  have hb := (Below.refl w.heap.size w).alloc (Nat.le_refl _) (.cells #[.slice pi ni ci, .slice pk nk ck] 111)
  generalize ni + nk = s at *
  go_enter Tryz.func122, Tryz.ntmps122
  go_wp2
  go_ret
  exact ⟨rfl, hb⟩
def partV (k : Value) (d : Nat) (iv kv : Value) : Value := .agg #[k, .int .i64 0, .int .u64 0, .int .i64 (d : Nat), .slice none 0 0, .slice none 0 0, iv, kv]
theorem fresh_any (w : World) (d : Nat) (p pi pk : Option Addr) (n c ni ci nk ck : Nat) (hn : ni + nk ≤ 1000000000) :
    Calls Tryz.prog 89 #[partV (.slice p n c) d (.slice pi ni ci) (.slice pk nk ck)] w fun e w' => e = .returned (.bool (decide (0 < ni + nk))) ∧ Below w.heap.size w w' := by
  have hb := (Below.refl w.heap.size w).alloc (Nat.le_refl _) (.cells #[.slice p n c, .int .i64 0, .int .u64 0, .int .i64 (d : Nat), .slice none 0 0, .slice none 0 0, .slice pi ni ci, .slice pk nk ck] 113)
  have HS := Lib.hid fun W => rowSize_any W pi pk ni ci nk ck hn
  have HB := Lib.hid hb
  clear hb
  generalize ni + nk = s at *
  unfold partV
  go_enter Tryz.func89, Tryz.ntmps89
  go_wp2_with fail
  refine (HS.out _).mono ?_
  rintro e w2 ⟨rfl, hb2⟩
  go_wp2
  go_ret
  exact ⟨rfl, HB.out.trans (hb2.mono HB.out.size)⟩
theorem mul64_none (w : World) : Calls Tryz.prog 196 #[.int .u64 1, .int .u64 0] w fun e w' => e = .returned (.tuple #[.int .u64 0, .int .u64 0]) ∧ w' = w := by
  go_enter Tryz.func196, Tryz.ntmps196
  go_wp2
  go_ret2
  exact ⟨rfl, rfl⟩
theorem owns_weak {w : World} {B B' s : Nat} {e : TypeId} {v : Value} {n : Nat} {xs : List Value} (h : w.ownsRow B e s v n xs) (hB : B' ≤ B) : w.ownsRow B' e s v n xs := by
  obtain ⟨h1, h2⟩ := h
  refine ⟨h1, ?_⟩
  rcases h2 with h | ⟨g, cap, cur, a, b, c⟩
  · exact .inl h
  · exact .inr ⟨g, cap, cur, a, Nat.le_trans hB b, c⟩
theorem ItRow.weak {w : World} {B B' : Nat} {v : Value} {its : List NIt} (h : ItRow w B v its) (hB : B' ≤ B) : ItRow w B' v its := by
  obtain ⟨cs, h1, h2, h3⟩ := h
  exact ⟨cs, h1, owns_weak h2 hB, fun j hj hj' => ⟨⟨owns_weak (h3 j hj hj').1.1 hB, (h3 j hj hj').1.2⟩, ⟨owns_weak (h3 j hj hj').2.1 hB, (h3 j hj hj').2.2⟩⟩⟩
def RowTold (w : World) (its : List NIt) (z : Ending) (w' : World) : Prop := ∃ p c, z = .returned (.tuple #[.agg #[.slice p its.length c, .slice none 0 0], .int .i64 0]) ∧ ItRow w' w.heap.size (.slice p its.length c) its ∧ Below w.heap.size w w'
set_option maxRecDepth 100000 in
theorem changedItems_any (u : Value) (pi pk : Option Addr) (ci nk ck : Nat) (its : List NIt) (pc : Option Addr) (cc : Nat) (l : List NCh) (w : World) (hi : RowAt KItem w pi ci its) (hl : RowAt KChange w pc cc l) (hs : AllShort its) (hsc : ∀ c ∈ l, ShortIt ⟨c.k, c.v⟩) (hm : its.length + l.length ≤ 500000) :
    Calls Tryz.prog 85 #[u, .agg #[.slice pi its.length ci, .slice pk nk ck], .slice pc l.length cc] w (RowTold w (applyN its l)) := by
  obtain ⟨W1, hW1⟩ : ∃ W1, W1 = w.alloc (.cells #[.slice pi its.length ci, .slice pk nk ck] 111) := ⟨_, rfl⟩
  have hb1 : Below w.heap.size w W1 := by rw [hW1]; exact (Below.refl _ _).alloc (Nat.le_refl _) _
  obtain ⟨W2, hW2⟩ : ∃ W2, W2 = W1.alloc (.cells #[.slice none 0 0, .slice none 0 0] 111) := ⟨_, rfl⟩
  have hb2 : Below w.heap.size w W2 := by rw [hW2]; exact hb1.alloc hb1.size _
  have hz : W1.heap.size = w.heap.size + 1 := by rw [hW1]; simp
  have HA := Lib.hid (apply_any pi ci its pc cc l W2 (hi.below hb2) (hl.below hb2) hs hsc hm)
  have HB := Lib.hid hb2
  have HWW : Hid (W2 = (w.alloc (.cells #[.slice pi its.length ci, .slice pk nk ck] 111)).alloc (.cells #[.slice none 0 0, .slice none 0 0] 111)) := by unfold Hid; rw [hW2, hW1]
  have hbx : W2.heap[w.heap.size + 1]? = some (.cells #[.slice none 0 0, .slice none 0 0] 111 (0, 0)) := by rw [hW2, ← hz]; exact heap_alloc_new W1 _
  have hz2 : W2.heap.size = w.heap.size + 2 := by rw [hW2]; simp [hz]
  have HX : Hid (∀ (w3 : World) (v : Value), ItRow w3 W2.heap.size v (applyN its l) → Below W2.heap.size W2 w3 → ∃ p c, v = .slice p (applyN its l).length c ∧ w3.heap[w.heap.size + 1]? = some (.cells #[.slice none 0 0, .slice none 0 0] 111 (0, 0)) ∧
      RowTold w (applyN its l) (.returned (.tuple #[.agg #[.slice p (applyN its l).length c, .slice none 0 0], .int .i64 0])) ((w3.setCell ⟨w.heap.size + 1, 0, none⟩ (.slice p (applyN its l).length c)).setCell ⟨w.heap.size + 1, 1, none⟩ (.slice none 0 0))) := fun w3 v hr hb3 => by
    obtain ⟨p, c, rfl, -⟩ := hr.at_
    have hx3 : w3.heap[w.heap.size + 1]? = some (.cells #[.slice none 0 0, .slice none 0 0] 111 (0, 0)) := (hb3.block _ (by omega)).trans hbx
    exact ⟨p, c, rfl, hx3, p, c, rfl, (hr.onlyT hx3 (by decide) ((Only.set _ 0 _ (.slice p (applyN its l).length c)).trans (Only.set _ 1 _ (.slice none 0 0)))).weak (by omega), ((hb2.trans (hb3.mono hb2.size)).setCell (p := ⟨w.heap.size + 1, 0, none⟩) (Nat.le_succ _) _).setCell (p := ⟨w.heap.size + 1, 1, none⟩) (Nat.le_succ _) _⟩
  clear hi hl hs hsc hm hb1 hb2 hW1 hW2 hz hbx hz2
  generalize its.length = L at *
  generalize l.length = M at *
  generalize hT : applyN its l = out at *
  have HT := Lib.hid hT
  clear hT
  go_enter Tryz.func85, Tryz.ntmps85
  go_wp2_with fail
  rw [← HWW.out]
  refine HA.out.mono ?_
  rintro e w3 ⟨v, rfl, hr, hb⟩
  obtain ⟨p, c, rfl, hx3, hF⟩ := HX.out w3 v hr hb
  have r0 : w3.cell? ⟨w.heap.size + 1, 0, none⟩ = some (.slice none 0 0) := cells_of hx3 0
  have r1 : w3.cell? ⟨w.heap.size + 1, 1, none⟩ = some (.slice none 0 0) := cells_of hx3 1
  have q0 := free_of hx3 0; have q1 := free_of hx3 1
  have HF := Lib.hid hF
  clear hr hb hF HX HA HB HWW
  have HX := Lib.hid (two_set (a := .slice p out.length c) (b := .slice none 0 0) hx3)
  clear hx3
  go_wp2
  exact bodyPost_ret (cell_ret2 (p := 6) (u := 7) (x := .int .i64 0) (ty := 111) (n := 2) (by kernel_rfl) (by kernel_rfl) (by kernel_rfl) rfl rfl HX.out rfl) rfl HF.out
theorem rowAt_nil {α : Type} (K : Kind α) (w : World) : RowAt K w none 0 [] := ⟨Nat.le_refl _, by decide, fun i h => absurd h (Nat.not_lt_zero _)⟩
set_option maxRecDepth 100000 in
theorem isLike_no {w : World} {pi pj pk pl : Option Addr} {ci cj nk ck nl cl : Nat} {its js : List NIt} (hi : RowAt KItem w pi ci its) (hj : RowAt KItem w pj cj js) (hne : its ≠ js) :
    Calls Tryz.prog 87 #[.agg #[.slice pi its.length ci, .slice pk nk ck], .agg #[.slice pj js.length cj, .slice pl nl cl]] w fun e w' => e = .returned (.bool false) ∧ Below w.heap.size w w' := by
  have hb := ((Below.refl w.heap.size w).alloc (Nat.le_refl _) (.cells #[.slice pi its.length ci, .slice pk nk ck] 111)).alloc (by simp) (.cells #[.slice pj js.length cj, .slice pl nl cl] 111)
  have hs := same_any (w := (w.alloc (.cells #[.slice pi its.length ci, .slice pk nk ck] 111)).alloc (.cells #[.slice pj js.length cj, .slice pl nl cl] 111)) (n := ⟨false, its, [], []⟩) (m := ⟨false, js, [], []⟩) ⟨rfl, hi.below hb, rowAt_nil _ _, rowAt_nil _ _⟩ ⟨rfl, hj.below hb, rowAt_nil _ _, rowAt_nil _ _⟩
  have hx : decide ((⟨false, its, [], []⟩ : Nd) = ⟨false, js, [], []⟩) = false := decide_eq_false (fun e => hne (by injection e))
  rw [hx] at hs
  dsimp only at hs
  have HS := Lib.hid hs; have HB := Lib.hid hb
  clear hs hb hx hi hj hne
  simp only [List.length_nil] at HS
  generalize its.length = L at *
  generalize js.length = M at *
  go_enter Tryz.func87, Tryz.ntmps87
  go_wp2_with fail
  refine HS.out.mono ?_
  rintro e w3 ⟨rfl, hb3⟩
  have HF := Lib.hid (HB.out.trans (hb3.mono HB.out.size))
  clear HS HB hb3
  go_wp2
  go_ret
  exact ⟨rfl, HF.out⟩
end Go.Proofs.YtlagllhhahomlaaGreat.Sl.Nd
/- Batches in a program: a row of a few items made one part. -/
namespace Go.Proofs.YtlagllhhahomlaaGreat.Sl.Nd
open Go Go.RowKit Go.By Lf
set_option maxRecDepth 100000 in
theorem mul_none (w : World) : Calls Tryz.prog 177 #[.int .u64 1, .int .u64 0] w fun e w' => e = .returned (.tuple #[.int .u64 0, .int .u64 0]) ∧ w' = w := by
  have HM := Lib.hid (mul64_none w)
  go_enter Tryz.func177, Tryz.ntmps177
  go_wp2_with fail
  refine HM.out.mono ?_
  rintro e w2 ⟨rfl, rfl⟩
  go_wp2
  go_ret2
  exact ⟨rfl, rfl⟩
set_option maxRecDepth 100000 in
theorem repeat_none (w : World) (b : Nat) (hb : w.heap[b]? = some (.cells #[.int .i64 8] 3 (0, 0))) :
    Calls Tryz.prog 154 #[.slice (some ⟨b, 0, none⟩) 1 1, .int .i64 0] w fun e w' => e = .returned (.slice (some ⟨w.heap.size, 0, none⟩) 0 0) ∧ w' = w.alloc (.cells #[] 3) := by
  have HM := Lib.hid (mul_none w)
  have hmk : (Instr.makeSlice 208 (.int .i64 0) (.int .i64 0)).run Tryz.prog w = .ok (.slice (some ⟨w.heap.size, 0, none⟩) 0 0) (w.alloc (.cells #[] 3)) := ints_made 0 0 rfl (by omega) w
  have hcp := run_copy_none (P := Tryz.prog) (w.alloc (.cells #[] 3)) 208 208 3 3 (some ⟨w.heap.size, 0, none⟩) (some ⟨b, 0, none⟩) 0 0 1 1 (by kernel_rfl) (by kernel_rfl) rfl
  go_enter Tryz.func154, Tryz.ntmps154
  go_wp2_with fail
  refine HM.out.mono ?_
  rintro e w2 ⟨rfl, rfl⟩
  go_wp2
  go_loopw [8] (fun i W => i = .int .i64 0 ∧ W = w2.alloc (.cells #[] 3)) (fun _ _ => 0)
  case atStart => exact ⟨rfl, rfl⟩
  case round =>
    obtain ⟨rfl, rfl⟩ := hrel
    go_wp2
    go_ret
    exact ⟨rfl, rfl⟩
set_option maxRecDepth 100000 in
theorem sizes_any (n : Nat) (w : World) (h1 : 1 ≤ n) (h2 : n ≤ 1000000) : Calls Tryz.prog 121 #[.int .i64 (n : Nat)] w (IntsTold w (groupsOf n)) := by
  obtain ⟨W1, hW1⟩ : ∃ W1, W1 = w.alloc (.cells #[.int .i64 8] 3) := ⟨_, rfl⟩
  have hb1 : Below w.heap.size w W1 := by rw [hW1]; exact (Below.refl _ _).alloc (Nat.le_refl _) _
  have hx1 : W1.heap[w.heap.size]? = some (.cells #[.int .i64 8] 3 (0, 0)) := by rw [hW1]; exact heap_alloc_new w _
  have hz1 : W1.heap.size = w.heap.size + 1 := by rw [hW1]; simp
  obtain ⟨W2, hW2⟩ : ∃ W2, W2 = W1.alloc (.cells #[] 3) := ⟨_, rfl⟩
  have hb2 : Below w.heap.size w W2 := by rw [hW2]; exact hb1.alloc hb1.size _
  have hz2 : W2.heap.size = w.heap.size + 2 := by rw [hW2]; simp [hz1]
  have HR : Hid (Calls Tryz.prog 154 #[.slice (some ⟨w.heap.size, 0, none⟩) 1 1, .int .i64 0] W1 fun e w' => e = .returned (.slice (some ⟨w.heap.size + 1, 0, none⟩) 0 0) ∧ w' = W2) := by
    have := repeat_none W1 w.heap.size hx1
    rw [← hW2, hz1] at this
    exact this
  have HG := Lib.hid (groups_any n W2 h1 (by omega))
  obtain ⟨i, hi, hz, hs, hby⟩ := info_int
  have HA : Hid (∀ w3 p c, w3.ownsRow W2.heap.size 3 1 (.slice p (groupsOf n).length c) (groupsOf n).length (intsC (groupsOf n)) → Below W2.heap.size W2 w3 → ∃ q d w4 b, p = some ⟨b, 0, none⟩ ∧ (Builtin.append_ #[208, 208] 208 #[.slice (some ⟨w.heap.size + 1, 0, none⟩) 0 0, .slice p (groupsOf n).length c]).run Tryz.prog w3 = .ok (.slice q (groupsOf n).length d) w4 ∧ IntsTold w (groupsOf n) (.returned (.slice q (groupsOf n).length d)) w4) := fun w3 p c ho hb3 => by
    have hgl : (groupsOf n).length ≤ 1000000 := by rw [groupsOf_length]; have := gk_le h1; omega
    have hbw3 : Below w.heap.size w w3 := hb2.trans (hb3.mono hb2.size)
    have hx2 : W2.heap[w.heap.size + 1]? = some (.cells #[] 3 (0, 0)) := by rw [hW2, ← hz1]; exact heap_alloc_new W1 _
    have hown : w3.ownsRow w.heap.size 3 1 (.slice (some ⟨w.heap.size + 1, 0, none⟩) 0 0) 0 [] := ⟨rfl, .inr ⟨w.heap.size + 1, 0, #[], rfl, by omega, (hb3.block _ (by omega)).trans hx2, Nat.le_refl _, by decide, rfl, rfl⟩⟩
    obtain ⟨b, hbp⟩ : ∃ b, p = some ⟨b, 0, none⟩ := by
      rcases ho.2 with ⟨e, _⟩ | ⟨g, cap, cur, e, -⟩
      · simp only [Value.slice.injEq] at e
        have := gk_pos h1
        have e2 := e.2.1
        rw [groupsOf_length] at e2
        omega
      · cases e; exact ⟨g, rfl⟩
    subst hbp
    have hcell := fun j u hu => ho.cells (g := b) rfl j u hu
    obtain ⟨v', w4, hr, ho4, hg⟩ := run_append_grows (P := Tryz.prog) (w := w3) 208 (t := 208) (e := 3) (by kernel_rfl) hi hz hs hby rfl (by decide) w.heap.size _ 0 [] hown b 0 (groupsOf n).length c (intsC (groupsOf n)) (by rw [intsC_length, Nat.mul_one]) (fun j u hu => by
      have := hcell j u hu
      rw [Addr.add_lit] at this
      exact this) (fun u hu => by
      simp only [intsC, List.mem_map] at hu
      obtain ⟨x, _, rfl⟩ := hu
      rfl) (by unfold maxLen; omega) (by omega) hbw3.size
    simp only [Nat.zero_add, List.nil_append] at hr ho4
    obtain ⟨q, d, rfl, -⟩ := owns_at ho4 (by decide)
    exact ⟨q, d, w4, b, rfl, hr, q, d, rfl, ho4, hg.below hbw3 hbw3.size (fun k hk => by simp [Value.ownBlock] at hk; omega)⟩
  obtain ⟨x0, hx0⟩ : ∃ x, x = Value.slice (some ⟨w.heap.size + 1, 0, none⟩) 0 0 := ⟨_, rfl⟩
  rw [← hx0] at HR HA
  clear hx0
  have hw1 : IntKind.i64.wrap ((n : Int) - 1048576) = (n : Int) - 1048576 := by rw [IntKind.wrap_i64]; omega
  have hw2 : IntKind.i64.wrap ((n : Int) - 1048576 + 8) = (n : Int) - 1048576 + 8 := by rw [IntKind.wrap_i64]; omega
  have hw3 : IntKind.i64.wrap ((n : Int) - 1048576 + 8 - 1) = (n : Int) - 1048576 + 8 - 1 := by rw [IntKind.wrap_i64]; omega
  have HWW : Hid (W1 = w.alloc (.cells #[.int .i64 8] 3)) := hW1
  clear hW1 hW2 hb1 hb2 hx1 hz1 hz2 hi hz hs hby
  generalize groupsOf n = G at *
  go_enter Tryz.func121, Tryz.ntmps121
  go_wp2_with fail
  rw [← HWW.out]
  refine HR.out.mono ?_
  rintro e w2 ⟨rfl, rfl⟩
  have hm0 : IntKind.i64.wrap ((n : Int) - 0) = (n : Nat) := by rw [IntKind.wrap_i64]; omega
  go_wp2_with fail
  refine HG.out.mono ?_
  rintro e w3 ⟨p, c, rfl, ho, hb⟩
  obtain ⟨q, d, w4, b, rfl, hr, hF⟩ := HA.out w3 p c ho hb
  have HF := Lib.hid hF
  have HRUN := Lib.hid hr
  clear hr hF ho hb HA HG HR HWW
  generalize G.length = gl at *
  go_wp2_with (at_builtin; refine Lib.wpList_append_run _ rfl (.tmp 12) (.tmp 17) 208 208 rfl _ _ rfl rfl _ w4 HRUN.out ?_)
  go_ret
  exact HF.out
end Go.Proofs.YtlagllhhahomlaaGreat.Sl.Nd
/- Batches in a program: a row of a few items is made one part. -/
namespace Go.Proofs.YtlagllhhahomlaaGreat.Sl.Nd
open Go Go.RowKit Go.By Lf
def partCells (x : Value) (pi : Option Addr) (n ci : Nat) : List Value := [x, .int .i64 0, .int .u64 0, .int .i64 0, .slice none 0 0, .slice none 0 0, .slice pi n ci, .slice none 0 0]
set_option maxRecDepth 1000000 in
theorem info_part : ∃ i, Tryz.prog.info? 113 = some i ∧ i.zero = some (.agg #[.slice none 0 0, .int .i64 0, .int .u64 0, .int .i64 0, .slice none 0 0, .slice none 0 0, .slice none 0 0, .slice none 0 0]) ∧ i.size = 8 ∧ i.bytes = 144 := ⟨_, rfl, rfl, rfl, rfl⟩
end Go.Proofs.YtlagllhhahomlaaGreat.Sl.Nd
