/- Rows made trees, in a program: whether an item may come. -/
import Derived.Test.YtajfcnaifegonaaMBkN
import Derived.Lib.AppendZeros
import Derived.Lib.SliceRun
import Derived.Deep.Upon
import Derived.Test.YtajfcnaifegonaaMRefN
import Derived.Test.YtajfcnaifegonaaMSlA
import Derived.Lib.SlBytesConst
import Derived.Lib.SmallJoins
namespace Go.Proofs.Ytajfcnaifegonaa.Sl.Nd
open Go Go.RowKit Go.By
def orOne (x : Int) : Int := if x = 0 then 1 else x
set_option maxRecDepth 100000 in
theorem orTwo_bk {w : World} {g : Nat} {x : Int} (h0 : w.cell? ⟨g, 0, none⟩ = some (.int .i64 x)) (h1 : w.cell? ⟨g, 1, none⟩ = some (.int .i64 1)) :
    Calls Try.prog 35 #[.slice (some ⟨g, 0, none⟩) 2 2] w fun e w' => e = .returned (.int .i64 (orOne x)) ∧ w = w' := by
  have HO : Hid (∀ y, y = x → x ≠ 0 → y = orOne x) := fun y h1 h2 => by unfold orOne; rw [if_neg h2, h1]
  have HO0 : Hid (x = 0 → (1 : Int) = orOne x) := fun h1 => by unfold orOne; rw [if_pos h1]
  generalize orOne x = ox at *
  go_enter Try.func35, Try.ntmps35
  go_wp2
  go_loopw [8] (fun i W => W = w ∧ ∃ k : Nat, k ≤ 2 ∧ i = .int .i64 k ∧ (1 ≤ k → x = 0) ∧ k ≠ 2) (fun i _ => 2 - (intOf i).toNat)
  case atStart => exact ⟨rfl, 0, by omega, rfl, fun h => by omega, by omega⟩
  case round =>
    obtain ⟨rfl, k, hk, rfl, hx, h2⟩ := hrel
    match k, hk with
    | 0, _ =>
      by_cases hz : x = 0
      · subst hz
        go_wp2
        go_roundw
        case rel => exact ⟨trivial, 1, by omega, rfl, fun _ => trivial, by omega⟩
        case measure => simp [intOf]
      · go_wp2
        go_ret
        exact ⟨by rw [← HO.out x rfl hz]; rfl, rfl⟩
    | 1, _ =>
      have hz := hx (by omega)
      subst hz
      go_wp2
      go_ret
      exact ⟨by rw [← HO0.out trivial]; rfl, rfl⟩
    | 2, _ => exact absurd rfl h2
set_option maxRecDepth 100000 in
theorem growItems_bk (w : World) (n : Nat) (h0 : 0 < n) (hn : n ≤ 1000) : Calls Try.prog 63 #[.slice none 0 0, .int .i64 (n : Nat)] w fun e w' => ∃ g c, e = .returned (.slice (some ⟨g, 0, none⟩) 0 c) ∧ w.heap.size ≤ g ∧ Tl w' 34 2 (.slice (some ⟨g, 0, none⟩) 0 c) 0 [] ∧ Below w.heap.size w w' := by
  obtain ⟨i, hi, hz, hs, hby⟩ := info_item
  have hr := fun w0 => Lib.run_append_nil_zeros (P := Try.prog) w0 30 3 30 34 i (.agg #[.slice none 0 0, .slice none 0 0]) .i64 .i64 (by kernel_rfl) (by kernel_rfl) hi hz n h0 (by omega) (by omega) (by rw [hby]; omega)
  have hge := grownCap_ge w n 0 34
  have hcm : grownCap w n 0 34 ≤ maxLen := grownCap_le_maxLen w n 0 _ (by unfold maxLen; omega)
  generalize hc : grownCap w n 0 34 = c at *
  have hr1 := hr w
  rw [hc] at hr1
  obtain ⟨W1, hW1⟩ : ∃ W1, W1 = w.drew.alloc (.cells (Builtin.zeroCells (Value.agg #[.slice none 0 0, .slice none 0 0]).cells n ++ Builtin.zeroCells (Value.agg #[.slice none 0 0, .slice none 0 0]).cells (c - n)) 34) := ⟨_, rfl⟩
  rw [← hW1] at hr1
  have hg : W1.heap[w.heap.size]? = some (.cells (Builtin.zeroCells (Value.agg #[.slice none 0 0, .slice none 0 0]).cells n ++ Builtin.zeroCells (Value.agg #[.slice none 0 0, .slice none 0 0]).cells (c - n)) 34 (0, 0)) := by rw [hW1]; exact heap_alloc_new w.drew _
  have hb : Below w.heap.size w W1 := by rw [hW1]; exact ((Below.refl _ _).drew).alloc (Nat.le_refl _) _
  have hF : Tl W1 34 2 (.slice (some ⟨w.heap.size, 0, none⟩) 0 c) 0 [] := by
    refine ⟨rfl, .inr ⟨w.heap.size, 0, c, _, rfl, hg, Nat.zero_le _, hcm, ?_, fun j h => by cases h⟩⟩
    rw [Array.size_append, size_zeroCells, size_zeroCells]
    show 0 + c * 2 ≤ n * 2 + (c - n) * 2
    omega
  have hw : IntKind.i64.wrap ((0 : Int) - 0) = 0 := by decide
  have hw2 : IntKind.i64.wrap ((n : Int) - 0) = (n : Nat) := by rw [IntKind.wrap_i64]; omega
  have hcl := fun w0 => run_slice_h (P := Try.prog) w0 30 (some ⟨w.heap.size, 0, none⟩) n c itTT.slice .i64 (0 : Int) (by omega) (by omega)
  simp only [itTT.size, Result.andThen, sliced, Nat.zero_mul, Nat.sub_zero, Int.toNat_zero] at hcl
  have HR := Lib.hid hr1; have HF := Lib.hid hF; have HB := Lib.hid hb
  have h0' : (0 : Int) < n := by omega
  clear hr hr1 hg hb hF hi hz hs hby hW1 hge hcm hc
  go_enter Try.func63, Try.ntmps63
  go_wp2_with (at_builtin; refine Lib.wpList_append_run _ rfl (.tmp 20) (.tmp 21) 30 3 rfl _ _ rfl rfl _ W1 HR.out ?_)
  go_ret
  refine ⟨w.heap.size, c, ?_, Nat.le_refl _, HF.out, HB.out⟩
  simp
def CatRel (w : World) (_b : Nat) (l0 l1 : List Value) (x i : Value) (wr : World) : Prop :=
  ∃ k : Nat, k ≤ 2 ∧ i = .int .i64 k ∧ Below w.heap.size w wr ∧ (∀ j, x.ownBlock = some j → w.heap.size ≤ j) ∧ Tl wr 34 2 x (((if 1 ≤ k then l0 else []) ++ (if 2 ≤ k then l1 else [])).length / 2) ((if 1 ≤ k then l0 else []) ++ (if 2 ≤ k then l1 else []))
def SzRel (w : World) (nx ny : Nat) (s i : Value) (W : World) : Prop := w = W ∧ ∃ k : Nat, k ≤ 2 ∧ i = .int .i64 k ∧ s = .int .i64 (if k = 0 then 0 else if k = 1 then nx else nx + ny : Nat)
theorem app_few {w w0 : World} {p : Option Addr} {c n : Nat} {cs : List Value} {x : Value} {xs : List Value} (hb : Below w0.heap.size w0 w) (h : Tl w 34 2 x (xs.length / 2) xs) (hx : ∀ j, x.ownBlock = some j → w0.heap.size ≤ j) (hn : cs.length = n * 2) (hn1 : n ≤ 1) (hl : xs.length ≤ 100) (hc : ∀ lb lo, p = some ⟨lb, lo, none⟩ → ∀ j u, cs[j]? = some u → w.cell? ⟨lb, lo + j, none⟩ = some u) (hp : n = 1 → ∃ lb lo, p = some ⟨lb, lo, none⟩) (h1 : ∀ u ∈ cs, u.oneCell' = true) (he : xs.length % 2 = 0) :
    ∃ v' w', (Builtin.append_ #[30, 30] 30 #[x, .slice p n c]).run Try.prog w = .ok v' w' ∧ Tl w' 34 2 v' ((xs ++ cs).length / 2) (xs ++ cs) ∧ Below w0.heap.size w0 w' ∧ ∀ j, v'.ownBlock = some j → w0.heap.size ≤ j := by
  obtain ⟨i, hi, hz, hs, hby⟩ := info_item
  by_cases h0 : n = 1
  · subst h0
    obtain ⟨lb, lo, rfl⟩ := hp rfl
    obtain ⟨v', w', r1, r2, r3⟩ := Tl.app (P := Try.prog) (w := w) 30 (t := 30) (e := 34) (by kernel_rfl) hi hz hs hby rfl (by decide) h (b := lb) (o := lo) (c := c) (news := cs) hn (hc lb lo rfl) h1 (by unfold maxLen; omega) (by omega)
    refine ⟨v', w', r1, ?_, ?_, fun j hj => ?_⟩
    · rw [List.length_append, hn, show (xs.length + 1 * 2) / 2 = xs.length / 2 + 1 by omega]
      exact r2
    · exact r3.below hb hb.size hx
    · rcases r3.new with e | ⟨q, e, hq⟩
      · exact hx j (by rw [← e]; exact hj)
      · rw [e] at hj
        cases hj
        exact Nat.le_trans hb.size hq
  · have hn0 : n = 0 := by omega
    subst hn0
    have hcs : cs = [] := List.eq_nil_of_length_eq_zero (by omega)
    subst hcs
    obtain ⟨px, cx, rfl, hle, _⟩ := h.shape
    have hsrc : Src Try.prog i.size 30 (.slice p 0 c) 0 [] w := by
      cases p with
      | none => exact Src.ofNil (e' := 34) w (by kernel_rfl) c
      | some ad => exact Src.ofSlice (e' := 34) w (by kernel_rfl) ad 0 c [] (by simp) (by simp) (by simp)
    refine ⟨_, w, run_append_nothing (P := Try.prog) w 30 30 30 34 i (by kernel_rfl) hi px (xs.length / 2) cx hle _ hsrc, ?_, hb, hx⟩
    rw [List.append_nil]
    exact h
set_option maxRecDepth 100000 in
set_option maxHeartbeats 1000000 in
theorem concat_bk {w : World} {b : Nat} {p1 p2 : Option Addr} {c1 c2 : Nat} {xs ys : List NIt} (hb : w.heap[b]? = some (.cells #[.slice p1 xs.length c1, .slice p2 ys.length c2] 30 (0, 0))) (h1 : RowAt KItem w p1 c1 xs) (hx : xs.length ≤ 1) (h2 : RowAt KItem w p2 c2 ys) (hy : ys.length = 1) :
    Calls Try.prog 37 #[.slice (some ⟨b, 0, none⟩) 2 2] w fun e w' => ∃ p c, e = .returned (.slice p (xs ++ ys).length c) ∧ RowAt KItem w' p c (xs ++ ys) ∧ Below w.heap.size w w' := by
  have cellsK : ∀ {p : Option Addr} {c : Nat} {l : List NIt}, RowAt KItem w p c l → l.length ≤ 1 → ∃ cs : List Value, cs.length = l.length * 2 ∧ (∀ u ∈ cs, u.oneCell' = true) ∧ (∀ lb lo, p = some ⟨lb, lo, none⟩ → ∀ j u, cs[j]? = some u → w.cell? ⟨lb, lo + j, none⟩ = some u) ∧ (l.length = 1 → ∃ lb lo, p = some ⟨lb, lo, none⟩) ∧ ∀ (hl : 0 < l.length), ∃ a b, cs = [a, b] ∧ Bytes w a l[0].k ∧ Bytes w b l[0].v := fun {p c l} h hl => by
    by_cases h0 : l.length = 0
    · exact ⟨[], by simp [h0], by simp, by simp, fun e => by omega, fun hh => by omega⟩
    · obtain ⟨lb, lo, cs, rfl, hc, a, d, rfl, ha, hd⟩ := h.at_ 0 (by omega)
      obtain ⟨qa, ca, rfl, -⟩ := ha.any
      obtain ⟨qd, cd, rfl, -⟩ := hd.any
      refine ⟨_, by simp; omega, by simp [Value.oneCell'], fun lb' lo' e j u hu => ?_, fun _ => ⟨lb, lo, rfl⟩, fun _ => ⟨_, _, rfl, ha, hd⟩⟩
      cases e
      have h5 := hc j (List.getElem?_eq_some_iff.1 hu).1
      simp only [Nat.zero_mul, Nat.add_zero] at h5
      rw [h5, (List.getElem?_eq_some_iff.1 hu).2]
  obtain ⟨l0, a1, a2, a3, a4, a5⟩ := cellsK h1 hx
  obtain ⟨l1, b1, b2, b3, b4, b5⟩ := cellsK h2 (by omega)
  have hlen : (xs ++ ys).length = (l0 ++ l1).length / 2 := by rw [List.length_append, List.length_append, a1, b1]; omega
  have HFIN : Hid (∀ v' wr, Below w.heap.size w wr → Tl wr 34 2 v' ((l0 ++ l1).length / 2) (l0 ++ l1) → ∃ p c, v' = .slice p (xs ++ ys).length c ∧ RowAt KItem wr p c (xs ++ ys)) := fun v' wr hbw ht => by
    obtain ⟨p, c, rfl, q1, q2, q3⟩ := ht.at_
    refine ⟨p, c, by rw [hlen], by rw [hlen]; exact q1, q2, fun j hj => ?_⟩
    have hkey : ∃ a d, (l0 ++ l1)[j * 2]? = some a ∧ (l0 ++ l1)[j * 2 + 1]? = some d ∧ Bytes wr a (xs ++ ys)[j].k ∧ Bytes wr d (xs ++ ys)[j].v := by
      by_cases hjx : j < xs.length
      · obtain ⟨a, d, e, ha, hd⟩ := a5 (by omega)
        obtain rfl : j = 0 := by omega
        rw [List.getElem_append_left hjx]
        refine ⟨a, d, by rw [e]; rfl, by rw [e]; rfl, ha.below hbw, hd.below hbw⟩
      · obtain ⟨a, d, e, ha, hd⟩ := b5 (by omega)
        rw [List.length_append] at hj
        have hj0 : j = xs.length := by omega
        subst hj0
        rw [List.getElem_append_right (Nat.le_refl _)]
        simp only [Nat.sub_self]
        refine ⟨a, d, ?_, ?_, ha.below hbw, hd.below hbw⟩
        · rw [List.getElem?_append_right (by omega), a1, Nat.sub_self, e]; rfl
        · rw [List.getElem?_append_right (by omega), a1, show xs.length * 2 + 1 - xs.length * 2 = 1 by omega, e]; rfl
    obtain ⟨a, d, e0, e1, ha, hd⟩ := hkey
    obtain ⟨lb, lo, rfl, k0⟩ := q3 _ _ e0
    obtain ⟨lb', lo', e, k1⟩ := q3 _ _ e1
    simp only [Option.some.injEq, Addr.mk.injEq, and_true] at e
    obtain ⟨rfl, rfl⟩ := e
    refine ⟨lb, lo, [a, d], rfl, fun i hi => ?_, a, d, rfl, ha, hd⟩
    match i, hi with
    | 0, _ => simpa [KItem] using k0
    | 1, _ => simpa [KItem, Nat.add_assoc] using k1
  have HAP0 := Lib.hid (fun (wr : World) (x : Value) (hbw : Below w.heap.size w wr) (h : Tl wr 34 2 x (([] : List Value).length / 2) []) hxn => app_few (p := p1) (c := c1) (n := xs.length) (cs := l0) hbw h hxn a1 hx (by simp) (fun lb lo e j u hu => (hbw.cell (p := ⟨lb, lo + j, none⟩) (block_lt_of_cell (a3 lb lo e j u hu))).trans (a3 lb lo e j u hu)) (fun e => a4 e) a2 rfl)
  have HAP1 := Lib.hid (fun (wr : World) (x : Value) (hbw : Below w.heap.size w wr) (h : Tl wr 34 2 x (l0.length / 2) l0) hxn => app_few (p := p2) (c := c2) (n := ys.length) (cs := l1) hbw h hxn b1 (by omega) (by omega) (fun lb lo e j u hu => (hbw.cell (p := ⟨lb, lo + j, none⟩) (block_lt_of_cell (b3 lb lo e j u hu))).trans (b3 lb lo e j u hu)) (fun e => b4 e) b2 (by omega))
  have k0 : w.cell? ⟨b, 0, none⟩ = some (.slice p1 xs.length c1) := cells_of hb 0
  have k1 : w.cell? ⟨b, 1, none⟩ = some (.slice p2 ys.length c2) := cells_of hb 1
  have HKC : Hid (∀ wr, Below w.heap.size w wr → wr.cell? ⟨b, 0, none⟩ = some (.slice p1 xs.length c1) ∧ wr.cell? ⟨b, 1, none⟩ = some (.slice p2 ys.length c2)) := fun wr hbw => ⟨(hbw.cell (p := ⟨b, 0, none⟩) (block_lt_of_cell k0)).trans k0, (hbw.cell (p := ⟨b, 1, none⟩) (block_lt_of_cell k1)).trans k1⟩
  have HGR := Lib.hid (growItems_bk w (xs.length + ys.length) (by omega) (by omega))
  generalize (xs ++ ys).length = L at *
  have hxI : (xs.length : Int) ≤ 1 := by omega
  have hyI : (ys.length : Int) = 1 := by omega
  have hw0 : IntKind.i64.wrap ((0 : Int) + xs.length) = (xs.length : Nat) := by rw [IntKind.wrap_i64]; omega
  have hw1 : IntKind.i64.wrap ((xs.length : Int) + ys.length) = (xs.length + ys.length : Nat) := by rw [IntKind.wrap_i64]; omega
  have hwn : IntKind.i64.wrap (xs.length : Int) = (xs.length : Nat) := by rw [IntKind.wrap_i64]; omega
  have hp0 : ¬ ((xs.length : Int) < 0) := by omega
  have hp1 : ¬ ((((xs.length + ys.length : Nat)) : Int) < 0) := by omega
  have HYE : Hid (ys.length = 1) := hy
  clear hb h1 h2 cellsK a1 a2 a3 a4 a5 b1 b2 b3 b4 b5 hlen hx hy
  generalize xs.length = nx at *
  generalize ys.length = ny at *
  clear hyI hxI
  go_enter Try.func37, Try.ntmps37
  go_wp2
  have H0 : Hid (SzRel w nx ny (.int .i64 (0 : Nat)) (.int .i64 (0 : Nat)) w) := ⟨rfl, 0, by omega, rfl, rfl⟩
  have H1 : Hid (SzRel w nx ny (.int .i64 nx) (.int .i64 (1 : Nat)) w) := ⟨rfl, 1, by omega, rfl, rfl⟩
  have H2 : Hid (SzRel w nx ny (.int .i64 (nx + ny : Nat)) (.int .i64 (2 : Nat)) w) := ⟨rfl, 2, by omega, rfl, rfl⟩
  go_loopw [3, 11] (fun s i W => SzRel w nx ny s i W) (fun _ i _ => 2 - (intOf i).toNat)
  case atStart => exact H0.out
  case round =>
    obtain ⟨rfl, k, hk, rfl, rfl⟩ := hrel
    obtain rfl | rfl | rfl : k = 0 ∨ k = 1 ∨ k = 2 := by omega
    · simp only [if_true]
      go_wp2
      go_roundw
      case rel => exact H1.out
      case measure => simp [intOf]
    · simp only [Nat.one_ne_zero, if_false, if_true]
      go_wp2
      go_roundw
      case rel => exact H2.out
      case measure => simp [intOf]
    · simp only [show ¬ (2 = 0) by decide, show ¬ (2 = 1) by decide, if_false]
      go_wp2_with fail
      refine HGR.out.mono ?_
      rintro e2 w2 ⟨g2, d2, rfl, hg2, ht2, hb2⟩
      have HG2 : Hid (CatRel w b l0 l1 (.slice (some ⟨g2, 0, none⟩) 0 d2) (.int .i64 (0 : Nat)) w2) := ⟨0, by omega, rfl, hb2, fun j hj => by cases hj; exact hg2, by simpa using ht2⟩
      clear hg2 ht2 hb2
      go_wp2
      go_loopw [6, 27] (fun x i W => CatRel w b l0 l1 x i W) (fun _ i _ => 2 - (intOf i).toNat)
      case atStart => exact HG2.out
      case round =>
        clear HG2
        obtain ⟨k, hk, rfl, hb3, hx3, ht3⟩ := hrel
        obtain ⟨m0, m1⟩ := HKC.out _ hb3
        obtain rfl | rfl | rfl : k = 0 ∨ k = 1 ∨ k = 2 := by omega
        · obtain ⟨v4, w4, hr4, ht4, hb4, hx4⟩ := HAP0.out _ _ hb3 ht3 hx3
          obtain ⟨pv, cv, rfl, _, _⟩ := ht4.shape
          have HR4 := Lib.hid hr4
          have HN4 : Hid (CatRel w b l0 l1 (.slice pv (([] ++ l0).length / 2) cv) (.int .i64 (1 : Nat)) w4) := ⟨1, by omega, rfl, hb4, hx4, by simpa using ht4⟩
          generalize ([] ++ l0).length / 2 = nv at *
          clear hr4 ht4 hb4 hx4 ht3 hx3
          go_wp2_with (at_builtin; refine Lib.wpList_append_run _ rfl (.tmp 31) (.tmp 32) 30 30 rfl _ _ rfl rfl _ w4 HR4.out ?_)
          go_roundw
          case rel => exact HN4.out
          case measure => simp [intOf]
        · obtain ⟨v4, w4, hr4, ht4, hb4, hx4⟩ := HAP1.out _ _ hb3 (by simpa using ht3) hx3
          obtain ⟨pv, cv, rfl, _, _⟩ := ht4.shape
          have HR4 := Lib.hid hr4
          have HN4 : Hid (CatRel w b l0 l1 (.slice pv ((l0 ++ l1).length / 2) cv) (.int .i64 (2 : Nat)) w4) := ⟨2, by omega, rfl, hb4, hx4, by simpa using ht4⟩
          generalize (l0 ++ l1).length / 2 = nv at *
          clear hr4 ht4 hb4 hx4 ht3 hx3
          go_wp2_with (at_builtin; refine Lib.wpList_append_run _ rfl (.tmp 31) (.tmp 32) 30 30 rfl _ _ rfl rfl _ w4 HR4.out ?_)
          go_roundw
          case rel => exact HN4.out
          case measure => simp [intOf]
        · obtain ⟨pv, cv, rfl, hrow⟩ := HFIN.out _ _ hb3 (by simpa using ht3)
          have HB3 := Lib.hid hb3; have HRW := Lib.hid hrow
          clear hb3 hx3 ht3 hrow
          go_wp2
          go_ret
          exact ⟨pv, cv, rfl, HRW.out, HB3.out⟩
end Go.Proofs.Ytajfcnaifegonaa.Sl.Nd
/- Rows made trees, in a program: an item may come, or not; it comes. -/
namespace Go.Proofs.Ytajfcnaifegonaa.Sl.Nd
open Go Go.RowKit Go.By
set_option maxRecDepth 100000 in
set_option maxHeartbeats 1000000 in
theorem mayTake_bk {own : Own} {g : Nat} {w : World} {p : Nat} {vi kv dv up a b : Value} {its : List NIt} {es : List KE} {it : NIt} (h : Row6 own g w p true vi kv dv up its es) (hl : its.length ≤ 1000) (ha : Bytes w a it.k) (hb : Bytes w b it.v) :
    Calls Try.prog 21 #[.pointer (some ⟨p, 0, none⟩), .agg #[a, b]] w fun e w' => e = .returned (.bool (mayNd (lfOf (its.drop (its.length - 1) ++ [it])))) ∧ Below w.heap.size w w' := by
  obtain ⟨pi, ci, rfl, hri⟩ := h.its.row
  obtain ⟨pa, ca, rfl, -⟩ := ha.any
  obtain ⟨pb, cb, rfl, -⟩ := hb.any
  obtain ⟨m, hm⟩ : ∃ m, m = its.length - 1 := ⟨_, rfl⟩
  obtain ⟨-, -, q, d, hr3, hr4, -⟩ := h.its.cut m (by omega)
  obtain ⟨q', d', e', hrow⟩ := hr4.row
  rw [List.length_drop] at e'
  simp only [Value.slice.injEq, true_and] at e'
  obtain ⟨rfl, rfl⟩ := e'
  obtain ⟨W1, hW1⟩ : ∃ W1, W1 = w.alloc (.cells #[.slice pa it.k.length ca, .slice pb it.v.length cb] 34) := ⟨_, rfl⟩
  have hb1 : Below w.heap.size w W1 := by rw [hW1]; exact (Below.refl _ _).alloc (Nat.le_refl _) _
  have hbox : W1.heap[w.heap.size]? = some (.cells #[.slice pa it.k.length ca, .slice pb it.v.length cb] 34 (0, 0)) := by rw [hW1]; exact heap_alloc_new w _
  have hpl : p < w.heap.size := (Array.getElem?_eq_some_iff.1 h.cells).1
  have s0 : W1.cell? ⟨p, 0, none⟩ = some (.slice pi its.length ci) := cells_of ((hb1.block _ hpl).trans h.cells) 0
  have r0 : W1.cell? ⟨w.heap.size, 0, none⟩ = some (.slice pa it.k.length ca) := cells_of hbox 0
  have r1 : W1.cell? ⟨w.heap.size, 1, none⟩ = some (.slice pb it.v.length cb) := cells_of hbox 1
  obtain ⟨W2, hW2⟩ : ∃ W2, W2 = (W1.alloc (.cells #[.slice pa it.k.length ca, .slice pb it.v.length cb] 34)).alloc (.cells #[.slice q (its.length - m) d, .slice (some ⟨W1.heap.size, 0, none⟩) 1 1] 30) := ⟨_, rfl⟩
  have hWs : W2 = allocs W1 [.cells #[.slice pa it.k.length ca, .slice pb it.v.length cb] 34, .cells #[.slice q (its.length - m) d, .slice (some ⟨W1.heap.size, 0, none⟩) 1 1] 30] := hW2
  have g0 : W2.heap[W1.heap.size]? = some (.cells #[.slice pa it.k.length ca, .slice pb it.v.length cb] 34 (0, 0)) := by rw [hWs]; exact allocs_at (i := 0) rfl
  have g1 : W2.heap[W1.heap.size + 1]? = some (.cells #[.slice q (its.length - m) d, .slice (some ⟨W1.heap.size, 0, none⟩) 1 1] 30 (0, 0)) := by rw [hWs]; exact allocs_at (i := 1) rfl
  have hb2 : Below W1.heap.size W1 W2 := by rw [hWs]; exact allocs_below _ _
  have hb12 : Below w.heap.size w W2 := hb1.trans (hb2.mono hb1.size)
  have hone : RowAt KItem W2 (some ⟨W1.heap.size, 0, none⟩) 1 [it] := by
    refine ⟨Nat.le_refl _, by decide, fun j hj => ?_⟩
    obtain rfl : j = 0 := by simpa using hj
    refine ⟨W1.heap.size, 0, _, rfl, fun i hi => ?_, _, _, rfl, ha.below hb12, hb.below hb12⟩
    match i, hi with
    | 0, _ => exact cells_of g0 0
    | 1, _ => exact cells_of g0 1
  have hdl : (its.drop m).length = its.length - m := List.length_drop ..
  have HCC : Hid (∀ Wd : World, Wd = W2.drew → Calls Try.prog 37 #[.slice (some ⟨W1.heap.size + 1, 0, none⟩) 2 2] Wd fun e w' => ∃ p c, e = .returned (.slice p (its.drop m ++ [it]).length c) ∧ RowAt KItem w' p c (its.drop m ++ [it]) ∧ Below Wd.heap.size Wd w') := fun Wd hWd => by
    subst hWd
    exact concat_bk (w := W2.drew) (by rw [hdl]; exact g1) ((hrow.below hb12).below ((Below.refl _ _).drew)) (by omega) (hone.below ((Below.refl _ _).drew)) rfl
  have HB12 := Lib.hid hb12; have HW1 := Lib.hid hW1; have HW2 := Lib.hid hW2
  have HM := Lib.hid hm
  rw [← hm]
  have hL9 : (its.length : Int) ≤ 9223372036854775807 := by omega
  obtain ⟨L, hL⟩ : ∃ L, L = its.length := ⟨_, rfl⟩
  have HL := Lib.hid hL
  rw [← hL] at s0 hr3 HW2 hL9
  have hml : m = L - 1 := by omega
  have HML := Lib.hid hml
  generalize hN : mayNd (lfOf (its.drop m ++ [it])) = N
  have HN := Lib.hid hN
  clear h hri ha hb hW1 hbox hpl hb1 hW2 hWs g0 g1 hb2 hb12 hone hdl hr4 hrow hN hL hl hm hml
  generalize it.k.length = la at *; generalize it.v.length = lb at *
  go_enter Try.func21, Try.ntmps21
  go_wp2_with fail
  rw [← HW1.out]
  by_cases h0 : L = 0
  · have HZ := Lib.hid h0
    have hw1 : IntKind.i64.wrap ((L : Int) - 1) = -1 := by rw [IntKind.wrap_i64]; omega
    clear h0
    refine wp_region_heldD (S := (fun w' => w'.cell? ⟨p, 0, none⟩ = some (.slice pi L ci))) (by kernel_rfl) ?_
    have hHeld : (fun w' => w'.cell? ⟨p, 0, none⟩ = some (.slice pi L ci)) W1.drew := s0
    refine wpAnyH_takeAt 0 6 ((.pointer (some ⟨p, 0, none⟩))) rfl rfl (by kernel_rfl) (by kernel_rfl) (by kernel_rfl) (fun _ _ _ h => h) (Or.inl ⟨by rfl, fun w h => by (try dsimp only at h); (try go_split_ands); go_simp⟩) hHeld ?_
    try simp only [Act.put, arr0, arr1, arr2]
    refine wpAnyH_takeAt 1 7 ((.pointer (some ⟨p, 0, none⟩))) rfl rfl (by kernel_rfl) (by kernel_rfl) (by kernel_rfl) (fun _ _ _ h => h) (Or.inl ⟨by rfl, fun w h => by (try dsimp only at h); (try go_split_ands); go_simp⟩) hHeld ?_
    try simp only [Act.put, arr0, arr1, arr2]
    refine wpAnyH_takeAt 2 8 ((.pointer (some ⟨p, 0, none⟩))) rfl rfl (by kernel_rfl) (by kernel_rfl) (by kernel_rfl) (fun _ _ _ h => h) (Or.inl ⟨by rfl, fun w h => by (try dsimp only at h); (try go_split_ands); go_simp⟩) hHeld ?_
    try simp only [Act.put, arr0, arr1, arr2]
    refine wpAnyH_takeAt 3 9 (.slice pi L ci) rfl rfl (by kernel_rfl) (by kernel_rfl) (by kernel_rfl) (fun _ _ _ h => h) (Or.inl ⟨by rfl, fun w h => by (try dsimp only at h); (try go_split_ands); go_simp⟩) hHeld ?_
    try simp only [Act.put, arr0, arr1, arr2]
    refine wpAnyH_takeAt 4 10 ((.pointer (some ⟨p, 0, none⟩))) rfl rfl (by kernel_rfl) (by kernel_rfl) (by kernel_rfl) (fun _ _ _ h => h) (Or.inl ⟨by rfl, fun w h => by (try dsimp only at h); (try go_split_ands); go_simp⟩) hHeld ?_
    try simp only [Act.put, arr0, arr1, arr2]
    refine wpAnyH_takeAt 5 11 ((.pointer (some ⟨p, 0, none⟩))) rfl rfl (by kernel_rfl) (by kernel_rfl) (by kernel_rfl) (fun _ _ _ h => h) (Or.inl ⟨by rfl, fun w h => by (try dsimp only at h); (try go_split_ands); go_simp⟩) hHeld ?_
    try simp only [Act.put, arr0, arr1, arr2]
    refine wpAnyH_takeAt 6 12 ((.pointer (some ⟨p, 0, none⟩))) rfl rfl (by kernel_rfl) (by kernel_rfl) (by kernel_rfl) (fun _ _ _ h => h) (Or.inl ⟨by rfl, fun w h => by (try dsimp only at h); (try go_split_ands); go_simp⟩) hHeld ?_
    try simp only [Act.put, arr0, arr1, arr2]
    refine wpAnyH_takeAt 7 13 (.slice pi L ci) rfl rfl (by kernel_rfl) (by kernel_rfl) (by kernel_rfl) (fun _ _ _ h => h) (Or.inl ⟨by rfl, fun w h => by (try dsimp only at h); (try go_split_ands); go_simp⟩) hHeld ?_
    try simp only [Act.put, arr0, arr1, arr2]
    refine wpAnyH_takeAt 8 14 (.int .i64 (L : Nat)) rfl rfl (by kernel_rfl) (by kernel_rfl) (by kernel_rfl) (fun _ _ _ h => h) (Or.inl ⟨by rfl, fun w h => by (try dsimp only at h); (try go_split_ands); go_simp⟩) hHeld ?_
    try simp only [Act.put, arr0, arr1, arr2]
    refine wpAnyH_takeAt 9 15 (.int .i64 (-1)) rfl rfl (by kernel_rfl) (by kernel_rfl) (by kernel_rfl) (fun _ _ _ h => h) (Or.inl ⟨by rfl, fun w h => by (try dsimp only at h); (try go_split_ands); go_simp⟩) hHeld ?_
    try simp only [Act.put, arr0, arr1, arr2]
    refine wpAnyH_takeAt 10 16 (.int .i64 (m : Nat)) rfl rfl (by kernel_rfl) (by kernel_rfl) (by kernel_rfl) (fun _ _ _ h => h) (Or.inl ⟨by rfl, fun w h => by (try dsimp only at h); (try go_split_ands); first | (go_simp; done) | (go_simp; intro h; omega) | (go_simp; have := HML.out; have := HZ.out; omega)⟩) hHeld ?_
    try simp only [Act.put, arr0, arr1, arr2]
    refine wpAnyH_takeAt 11 17 (.slice q (L - m) d) rfl rfl (by kernel_rfl) (by kernel_rfl) (by kernel_rfl) (fun _ _ _ h => h) (Or.inl ⟨by rfl, fun w h => by (try dsimp only at h); (try go_split_ands); go_simp⟩) hHeld ?_
    try simp only [Act.put, arr0, arr1, arr2]
    refine wpAnyH_takeAt 12 5 (.slice q (L - m) d) rfl rfl (by kernel_rfl) (by kernel_rfl) (by kernel_rfl) (fun _ _ _ h => h) (Or.inl ⟨by rfl, fun w h => by (try dsimp only at h); (try go_split_ands); go_simp⟩) hHeld ?_
    try simp only [Act.put, arr0, arr1, arr2]
    refine wpAnyH_done (by kernel_rfl) ?_ _
    clear hHeld s0
    go_wp2_with fail
    rw [← HW2.out]
    refine (HCC.out _ rfl).mono ?_
    rintro e3 w3 ⟨p3, c3, rfl, h3, b3⟩
    obtain ⟨l3, hl3⟩ : ∃ l3, l3 = (its.drop m ++ [it]).length := ⟨_, rfl⟩
    have HMY : Hid (Calls Try.prog 36 #[.agg #[.bool true, .slice p3 l3 c3, .slice none 0 0, .slice none 0 0]] w3 fun e w' => e = .returned (.bool N) ∧ Below w3.heap.size w3 w') := by
      have := may_any (w := w3) (n := lfOf (its.drop m ++ [it])) ⟨rfl, h3, RowAt.nil (p := none), RowAt.nil (p := none)⟩
      rw [HN.out] at this
      rw [hl3]
      exact this
    rw [← hl3]
    have HB3 : Hid (Below w.heap.size w w3) := (HB12.out.drew).trans (b3.mono HB12.out.drew.size)
    clear h3 b3 HCC hl3
    go_wp2_with fail
    refine HMY.out.mono ?_
    rintro e4 w4 ⟨rfl, b4⟩
    have HB4 : Hid (Below w.heap.size w w4) := HB3.out.trans (b4.mono HB3.out.size)
    clear b4
    go_wp2
    go_ret
    exact ⟨rfl, HB4.out⟩
  · have HZ : Hid (¬ L = 0) := h0
    have hw1 : IntKind.i64.wrap ((L : Int) - 1) = (m : Nat) := by have := HML.out; rw [IntKind.wrap_i64]; omega
    clear h0
    refine wp_region_heldD (S := (fun w' => w'.cell? ⟨p, 0, none⟩ = some (.slice pi L ci))) (by kernel_rfl) ?_
    have hHeld : (fun w' => w'.cell? ⟨p, 0, none⟩ = some (.slice pi L ci)) W1.drew := s0
    refine wpAnyH_takeAt 0 6 ((.pointer (some ⟨p, 0, none⟩))) rfl rfl (by kernel_rfl) (by kernel_rfl) (by kernel_rfl) (fun _ _ _ h => h) (Or.inl ⟨by rfl, fun w h => by (try dsimp only at h); (try go_split_ands); go_simp⟩) hHeld ?_
    try simp only [Act.put, arr0, arr1, arr2]
    refine wpAnyH_takeAt 1 7 ((.pointer (some ⟨p, 0, none⟩))) rfl rfl (by kernel_rfl) (by kernel_rfl) (by kernel_rfl) (fun _ _ _ h => h) (Or.inl ⟨by rfl, fun w h => by (try dsimp only at h); (try go_split_ands); go_simp⟩) hHeld ?_
    try simp only [Act.put, arr0, arr1, arr2]
    refine wpAnyH_takeAt 2 8 ((.pointer (some ⟨p, 0, none⟩))) rfl rfl (by kernel_rfl) (by kernel_rfl) (by kernel_rfl) (fun _ _ _ h => h) (Or.inl ⟨by rfl, fun w h => by (try dsimp only at h); (try go_split_ands); go_simp⟩) hHeld ?_
    try simp only [Act.put, arr0, arr1, arr2]
    refine wpAnyH_takeAt 3 9 (.slice pi L ci) rfl rfl (by kernel_rfl) (by kernel_rfl) (by kernel_rfl) (fun _ _ _ h => h) (Or.inl ⟨by rfl, fun w h => by (try dsimp only at h); (try go_split_ands); go_simp⟩) hHeld ?_
    try simp only [Act.put, arr0, arr1, arr2]
    refine wpAnyH_takeAt 4 10 ((.pointer (some ⟨p, 0, none⟩))) rfl rfl (by kernel_rfl) (by kernel_rfl) (by kernel_rfl) (fun _ _ _ h => h) (Or.inl ⟨by rfl, fun w h => by (try dsimp only at h); (try go_split_ands); go_simp⟩) hHeld ?_
    try simp only [Act.put, arr0, arr1, arr2]
    refine wpAnyH_takeAt 5 11 ((.pointer (some ⟨p, 0, none⟩))) rfl rfl (by kernel_rfl) (by kernel_rfl) (by kernel_rfl) (fun _ _ _ h => h) (Or.inl ⟨by rfl, fun w h => by (try dsimp only at h); (try go_split_ands); go_simp⟩) hHeld ?_
    try simp only [Act.put, arr0, arr1, arr2]
    refine wpAnyH_takeAt 6 12 ((.pointer (some ⟨p, 0, none⟩))) rfl rfl (by kernel_rfl) (by kernel_rfl) (by kernel_rfl) (fun _ _ _ h => h) (Or.inl ⟨by rfl, fun w h => by (try dsimp only at h); (try go_split_ands); go_simp⟩) hHeld ?_
    try simp only [Act.put, arr0, arr1, arr2]
    refine wpAnyH_takeAt 7 13 (.slice pi L ci) rfl rfl (by kernel_rfl) (by kernel_rfl) (by kernel_rfl) (fun _ _ _ h => h) (Or.inl ⟨by rfl, fun w h => by (try dsimp only at h); (try go_split_ands); go_simp⟩) hHeld ?_
    try simp only [Act.put, arr0, arr1, arr2]
    refine wpAnyH_takeAt 8 14 (.int .i64 (L : Nat)) rfl rfl (by kernel_rfl) (by kernel_rfl) (by kernel_rfl) (fun _ _ _ h => h) (Or.inl ⟨by rfl, fun w h => by (try dsimp only at h); (try go_split_ands); go_simp⟩) hHeld ?_
    try simp only [Act.put, arr0, arr1, arr2]
    refine wpAnyH_takeAt 9 15 (.int .i64 (m : Nat)) rfl rfl (by kernel_rfl) (by kernel_rfl) (by kernel_rfl) (fun _ _ _ h => h) (Or.inl ⟨by rfl, fun w h => by (try dsimp only at h); (try go_split_ands); go_simp⟩) hHeld ?_
    try simp only [Act.put, arr0, arr1, arr2]
    refine wpAnyH_takeAt 10 16 (.int .i64 (m : Nat)) rfl rfl (by kernel_rfl) (by kernel_rfl) (by kernel_rfl) (fun _ _ _ h => h) (Or.inl ⟨by rfl, fun w h => by (try dsimp only at h); (try go_split_ands); first | (go_simp; done) | (go_simp; intro h; omega) | (go_simp; have := HML.out; have := HZ.out; omega)⟩) hHeld ?_
    try simp only [Act.put, arr0, arr1, arr2]
    refine wpAnyH_takeAt 11 17 (.slice q (L - m) d) rfl rfl (by kernel_rfl) (by kernel_rfl) (by kernel_rfl) (fun _ _ _ h => h) (Or.inl ⟨by rfl, fun w h => by (try dsimp only at h); (try go_split_ands); go_simp⟩) hHeld ?_
    try simp only [Act.put, arr0, arr1, arr2]
    refine wpAnyH_takeAt 12 5 (.slice q (L - m) d) rfl rfl (by kernel_rfl) (by kernel_rfl) (by kernel_rfl) (fun _ _ _ h => h) (Or.inl ⟨by rfl, fun w h => by (try dsimp only at h); (try go_split_ands); go_simp⟩) hHeld ?_
    try simp only [Act.put, arr0, arr1, arr2]
    refine wpAnyH_done (by kernel_rfl) ?_ _
    clear hHeld s0
    go_wp2_with fail
    rw [← HW2.out]
    refine (HCC.out _ rfl).mono ?_
    rintro e3 w3 ⟨p3, c3, rfl, h3, b3⟩
    obtain ⟨l3, hl3⟩ : ∃ l3, l3 = (its.drop m ++ [it]).length := ⟨_, rfl⟩
    have HMY : Hid (Calls Try.prog 36 #[.agg #[.bool true, .slice p3 l3 c3, .slice none 0 0, .slice none 0 0]] w3 fun e w' => e = .returned (.bool N) ∧ Below w3.heap.size w3 w') := by
      have := may_any (w := w3) (n := lfOf (its.drop m ++ [it])) ⟨rfl, h3, RowAt.nil (p := none), RowAt.nil (p := none)⟩
      rw [HN.out] at this
      rw [hl3]
      exact this
    rw [← hl3]
    have HB3 : Hid (Below w.heap.size w w3) := (HB12.out.drew).trans (b3.mono HB12.out.drew.size)
    clear h3 b3 HCC hl3
    go_wp2_with fail
    refine HMY.out.mono ?_
    rintro e4 w4 ⟨rfl, b4⟩
    have HB4 : Hid (Below w.heap.size w w4) := HB3.out.trans (b4.mono HB3.out.size)
    clear b4
    go_wp2
    go_ret
    exact ⟨rfl, HB4.out⟩
end Go.Proofs.Ytajfcnaifegonaa.Sl.Nd
/- Rows made trees, in a program: the root, however many levels there are; what a builder is; it begins, ends. -/
namespace Go.Proofs.Ytajfcnaifegonaa.Sl.Nd
open Go Go.RowKit Go.By
theorem layAllE_smp : ∀ (f : Nat) (C : List Nat) (es : List KE) (rest : List (List KE)), es.length ≤ f → Smp (es :: rest) → Smp (layAllE f C es rest).2 ∧ sumD (layAllE f C es rest).2 = sumD (es :: rest)
  | 0, C, es, rest, hf, hm => by
    obtain rfl : es = [] := List.eq_nil_of_length_eq_zero (by omega)
    exact ⟨hm.tail, by rw [sumD_cons]; simp [layAllE, sumK]⟩
  | f + 1, C, es, rest, hf, hm => by
    unfold layAllE
    by_cases h0 : es.length = 0
    · obtain rfl : es = [] := List.eq_nil_of_length_eq_zero h0
      rw [if_pos h0]
      exact ⟨hm.tail, by rw [sumD_cons]; simp [sumK]⟩
    · rw [if_neg h0]
      have hes := hm es (by simp)
      obtain ⟨h1, h2⟩ := takeK_smp rest (layE C (es.take (shareN es.length))).1 (layE C (es.take (shareN es.length))).2 hm.tail (headE_len (fun x hx => hes.2 x (List.mem_of_mem_take hx)))
      have hsh := share_le (n := es.length) (by omega)
      obtain ⟨h3, h4⟩ := layAllE_smp f (takeK (layE C (es.take (shareN es.length))).1 rest (layE C (es.take (shareN es.length))).2).1 (es.drop (shareN es.length)) (takeK (layE C (es.take (shareN es.length))).1 rest (layE C (es.take (shareN es.length))).2).2 (by rw [List.length_drop]; omega) (Smp.cons (by rw [List.length_drop]; omega) (fun x hx => hes.2 x (List.mem_of_mem_drop hx)) h1)
      refine ⟨h3, ?_⟩
      rw [h4, sumD_cons, h2, sumD_cons]
      have h7 : (layE C (es.take (shareN es.length))).2.d.ct = sumK ((es.take (shareN es.length)).map (·.d)) := rfl
      have h9 := sumK_app ((es.take (shareN es.length)).map (·.d)) ((es.drop (shareN es.length)).map (·.d))
      rw [← List.map_append, List.take_append_drop] at h9
      omega
theorem layAllI_smp : ∀ (f : Nat) (C : List Nat) (its : List NIt) (rest : List (List KE)), its.length ≤ f → Smp rest → (∀ x ∈ its, x.k.length ≤ 1000) → Smp (layAllI f C its rest).2 ∧ sumD (layAllI f C its rest).2 = sumD rest + its.length
  | 0, C, its, rest, hf, hm, _ => by
    obtain rfl : its = [] := List.eq_nil_of_length_eq_zero (by omega)
    exact ⟨hm, by simp [layAllI]⟩
  | f + 1, C, its, rest, hf, hm, hk => by
    unfold layAllI
    by_cases h0 : its.length = 0
    · rw [if_pos h0]
      exact ⟨hm, by rw [h0]; rfl⟩
    · rw [if_neg h0]
      obtain ⟨h1, h2⟩ := takeK_smp rest (layI C (its.take (shareN its.length))).1 (layI C (its.take (shareN its.length))).2 hm (headI_len (fun x hx => hk x (List.mem_of_mem_take hx)))
      have hsh := share_le (n := its.length) (by omega)
      obtain ⟨h3, h4⟩ := layAllI_smp f (takeK (layI C (its.take (shareN its.length))).1 rest (layI C (its.take (shareN its.length))).2).1 (its.drop (shareN its.length)) (takeK (layI C (its.take (shareN its.length))).1 rest (layI C (its.take (shareN its.length))).2).2 (by rw [List.length_drop]; omega) h1 (fun x hx => hk x (List.mem_of_mem_drop hx))
      refine ⟨h3, ?_⟩
      rw [h4, h2, List.length_drop]
      have h7 : (layI C (its.take (shareN its.length))).2.d.ct = (its.take (shareN its.length)).length := rfl
      rw [h7, List.length_take]
      omega
set_option maxRecDepth 100000 in
theorem closed_spec {R : Int} {W : World} {g a : Nat} {C' : List Nat} {d : NKd} (hr : Roomy R C') : ∀ (f : Nat) (C : List Nat) (lvls : List (List KE)) (own : Own) (w : World) (up : Value) (F : List Nat) (lf : Nat), Chain own W g w up lvls F → BkF R C lf W g a own w → lf < 1000000 → doneK f C lvls = some (C', d) → Smp lvls → sumD lvls ≤ 1099511627776 →
    Calls Try.prog 24 #[up] w (Shut R C' d lf W g a own F w)
  | 0, _, _, _, _, _, _, _, _, _, _, hd, _, _ => by cases hd
  | f + 1, C, [], own, w, up, F, lf, hc, hf, hlf, hd, hm, hsum => by
    cases hc
    cases hd
    refine (closed_none w).mono ?_
    rintro e w' ⟨rfl, hb⟩
    exact .inl ⟨rfl, own, lf, Nat.le_refl _, Turns.below hb, hf.stay hb⟩
  | f + 1, C, es :: rest, own, w, up, F, lf, hc, hf, hlf, hd, hm, hsum => by
    obtain ⟨p, rfl⟩ : ∃ p, up = .pointer (some ⟨p, 0, none⟩) := by cases hc; exact ⟨_, rfl⟩
    obtain ⟨kv, dv, up1, F1, rfl, hs⟩ := hc.st6
    unfold doneK at hd
    by_cases h0 : rest.length = 0 ∧ es.length = 1
    · rw [if_pos h0] at hd
      obtain rfl : rest = [] := List.eq_nil_of_length_eq_zero h0.1
      obtain ⟨e, rfl⟩ := List.length_eq_one_iff.1 h0.2
      simp only [firstD, Option.some.injEq, Prod.mk.injEq] at hd
      obtain ⟨rfl, rfl⟩ := hd
      have hup : up1 = .pointer none := by cases hs.ch; rfl
      subst hup
      refine (closed_one hs).mono ?_
      rintro z w' ⟨rfl, hb⟩
      exact .inl ⟨rfl, own, lf, Nat.le_refl _, Turns.below hb, hf.stay hb⟩
    · rw [if_neg h0] at hd
      have hsp := layAllE_smp es.length C es rest (Nat.le_refl _) hm
      have hmore := doneK_more f _ _ hd
      have ih := fun (own1 : Own) (w1 : World) (up1 : Value) (F1 : List Nat) (lf1 : Nat) (hc1 : Chain own1 W g w1 up1 (layAllE es.length C es rest).2 F1) (hf1 : BkF R (layAllE es.length C es rest).1 lf1 W g a own1 w1) (hl1 : lf1 ≤ lf) => closed_spec hr f _ _ own1 w1 up1 F1 lf1 hc1 hf1 (by omega) hd hsp.1 (by rw [hsp.2]; exact hsum)
      rcases up_of hs.ch with ⟨rfl, rfl⟩ | ⟨q, es0, rest0, rfl, rfl⟩
      · exact closed_kids_top (_its := []) (_rest := []) hs hf hlf hm hsum hr (hm es (by simp)).1 (fun h => h0 ⟨rfl, h⟩) hmore ih
      · exact closed_kids_mid (_its := []) hs hf hlf hm hsum hr (hm es (by simp)).1 hmore ih
theorem closed_items {R : Int} {W : World} {g a : Nat} {C C' : List Nat} {d : NKd} {own : Own} {w : World} {p : Nat} {vi kv dv up : Value} {its : List NIt} {rest : List (List KE)} {F : List Nat} {lf : Nat} (hr : Roomy R C') (hs : St6 own W g w p true vi kv dv up its [] rest F) (hf : BkF R C lf W g a own w) (hlf : lf < 1000000) (hd : doneB C its rest = some (C', d)) (hm : Smp rest) (hsum : sumD rest + its.length ≤ 1099511627776)
    (hl : its.length ≤ 11) (hk : ∀ x ∈ its, x.k.length ≤ 1000) : Calls Try.prog 24 #[.pointer (some ⟨p, 0, none⟩)] w (Shut R C' d lf W g a own (p :: (blk vi ++ (blk kv ++ (blk dv ++ F)))) w) := by
  have hsp := layAllI_smp its.length C its rest (Nat.le_refl _) hm hk
  unfold doneB at hd
  have hmore := doneK_more _ _ _ hd
  have ih := fun (own1 : Own) (w1 : World) (up1 : Value) (F1 : List Nat) (lf1 : Nat) (hc1 : Chain own1 W g w1 up1 (layAllI its.length C its rest).2 F1) (hf1 : BkF R (layAllI its.length C its rest).1 lf1 W g a own1 w1) (hl1 : lf1 ≤ lf) => closed_spec hr _ _ _ own1 w1 up1 F1 lf1 hc1 hf1 (by omega) hd hsp.1 (by rw [hsp.2]; exact hsum)
  rcases up_of hs.ch with ⟨rfl, rfl⟩ | ⟨q, es0, rest0, rfl, rfl⟩
  · exact closed_items_top (_es := []) (_rest := []) hs hf hlf hm hsum hr hl hk hmore ih
  · exact closed_items_mid (_es := []) hs hf hlf hm hsum hr hl hk hmore ih
set_option maxRecDepth 100000 in
theorem new_bk (g : Nat) (w : World) : Calls Try.prog 7 #[.pointer (some ⟨g, 0, none⟩)] w fun e w' => ∃ b p, e = .returned (.pointer (some ⟨b, 0, none⟩)) ∧ w.heap.size ≤ b ∧ w.heap.size ≤ p ∧ b ≠ p ∧ w'.heap[b]? = some (.cells #[.pointer (some ⟨p, 0, none⟩), .int .i64 0] 56 (0, 0)) ∧
    w'.heap[p]? = some (.cells (rowC p g true (.slice none 0 0) (.slice none 0 0) (.slice none 0 0) (.pointer none)) 82 (0, 0)) ∧ Below w.heap.size w w' := by
  have HR := Lib.hid (rowOfItems_bk g w)
  go_enter Try.func7, Try.ntmps7
  go_wp2_with fail
  refine HR.out.mono ?_
  rintro e w1 ⟨p, rfl, hp, hc, hb⟩
  have hpl : p < w1.heap.size := (Array.getElem?_eq_some_iff.1 hc).1
  have hb2 : Below w1.heap.size w1 (w1.alloc (.cells #[.pointer (some ⟨p, 0, none⟩), .int .i64 0] 56)) := (Below.refl _ _).alloc (Nat.le_refl _) _
  have HF : Hid (∃ b q, (Ending.returned (.pointer (some ⟨w1.heap.size, 0, none⟩))) = .returned (.pointer (some ⟨b, 0, none⟩)) ∧ w.heap.size ≤ b ∧ w.heap.size ≤ q ∧ b ≠ q ∧ (w1.alloc (.cells #[.pointer (some ⟨p, 0, none⟩), .int .i64 0] 56)).heap[b]? = some (.cells #[.pointer (some ⟨q, 0, none⟩), .int .i64 0] 56 (0, 0)) ∧
    (w1.alloc (.cells #[.pointer (some ⟨p, 0, none⟩), .int .i64 0] 56)).heap[q]? = some (.cells (rowC q g true (.slice none 0 0) (.slice none 0 0) (.slice none 0 0) (.pointer none)) 82 (0, 0)) ∧ Below w.heap.size w (w1.alloc (.cells #[.pointer (some ⟨p, 0, none⟩), .int .i64 0] 56))) := ⟨w1.heap.size, p, rfl, hb.size, hp, by omega, heap_alloc_new w1 _, (hb2.block p hpl).trans hc, hb.trans (hb2.mono hb.size)⟩
  clear hp hc hb hpl hb2 HR
  go_wp2
  go_ret
  exact HF.out
set_option maxRecDepth 100000 in
theorem ended_open {w : World} {b p : Nat} {x : Value} (hb : w.heap[b]? = some (.cells #[.pointer (some ⟨p, 0, none⟩), x] 56 (0, 0))) : Calls Try.prog 20 #[.pointer (some ⟨b, 0, none⟩)] w fun e w' => e = .returned (.int .i64 0) ∧ Below w.heap.size w w' := by
  have c0 : w.cell? ⟨b, 0, none⟩ = some (.pointer (some ⟨p, 0, none⟩)) := cells_of hb 0
  have h := Below.refl w.heap.size w
  clear hb
  go_enter Try.func20, Try.ntmps20
  go_wp2
  go_ret
  exact ⟨rfl, h⟩
set_option maxRecDepth 100000 in
theorem ended_shut {w : World} {b : Nat} {x : Int} (hb : w.heap[b]? = some (.cells #[.pointer none, .int .i64 x] 56 (0, 0))) : Calls Try.prog 20 #[.pointer (some ⟨b, 0, none⟩)] w fun e w' => e = .returned (.int .i64 (orOne x)) ∧ Below w.heap.size w w' := by
  have c0 : w.cell? ⟨b, 0, none⟩ = some (.pointer none) := cells_of hb 0
  have c1 : w.cell? ⟨b, 1, none⟩ = some (.int .i64 x) := cells_of hb 1
  have h : Below w.heap.size w (w.alloc (.cells #[.int .i64 x, .int .i64 1] 35)) := (Below.refl _ _).alloc (Nat.le_refl _) _
  have hg := heap_alloc_new w (.cells #[.int .i64 x, .int .i64 1] 35)
  have HO := Lib.hid (orTwo_bk (w := w.alloc (.cells #[.int .i64 x, .int .i64 1] 35)) (g := w.heap.size) (x := x) (cells_of hg 0) (cells_of hg 1))
  generalize orOne x = ox at *
  clear hb hg
  go_enter Try.func20, Try.ntmps20
  go_wp2_with fail
  refine HO.out.mono ?_
  rintro e w2 ⟨rfl, rfl⟩
  go_wp2
  go_ret
  exact ⟨rfl, h⟩
set_option maxRecDepth 100000 in
theorem end_bk {w : World} {b : Nat} {x : Int} {y z : Value} (hb : w.heap[b]? = some (.cells #[y, z] 56 (0, 0))) : Calls Try.prog 23 #[.pointer (some ⟨b, 0, none⟩), .int .i64 x] w fun e w' => e = .returned (.tuple #[]) ∧ w' = (w.setCell ⟨b, 0, none⟩ (.pointer none)).setCell ⟨b, 1, none⟩ (.int .i64 x) := by
  have c0 : w.cell? ⟨b, 0, none⟩ = some y := cells_of hb 0
  have c1 : w.cell? ⟨b, 1, none⟩ = some z := cells_of hb 1
  have q0 := free_of hb 0; have q1 := free_of hb 1
  clear hb
  go_enter Try.func23, Try.ntmps23
  go_wp2
  go_returns
  exact ⟨rfl, rfl⟩
end Go.Proofs.Ytajfcnaifegonaa.Sl.Nd
/- Rows made trees, in a program: Put, Done. -/
namespace Go.Proofs.Ytajfcnaifegonaa.Sl.Nd
open Go Go.RowKit Go.By
structure Open (R : Int) (C : List Nat) (lf : Nat) (W : World) (g a : Nat) (own : Own) (b : Nat) (its : List NIt) (rest : List (List KE)) (Fo : List Nat) (w : World) : Prop where
  st : ∃ p vi kv dv up F, w.heap[b]? = some (.cells #[.pointer (some ⟨p, 0, none⟩), .int .i64 0] 56 (0, 0)) ∧ St6 own W g w p true vi kv dv up its [] rest F ∧ Fo = b :: (p :: (blk vi ++ (blk kv ++ (blk dv ++ F))))
  fl : BkF R C lf W g a own w
  bf : own b = none ∧ b ≠ g ∧ W.heap.size ≤ b
def Over (b : Nat) (x : Int) (w : World) : Prop := w.heap[b]? = some (.cells #[.pointer none, .int .i64 x] 56 (0, 0))
theorem St6.noB {own : Own} {W : World} {g : Nat} {w : World} {p : Nat} {it : Bool} {vi kv dv up : Value} {its : List NIt} {es : List KE} {rest : List (List KE)} {F : List Nat} (h : St6 own W g w p it vi kv dv up its es rest F) {b : Nat} {c : Array Value} (hb : w.heap[b]? = some (.cells c 56 (0, 0))) : b ∉ p :: (blk vi ++ (blk kv ++ (blk dv ++ F))) := by
  intro hm
  have hty : ∀ {c' : Array Value} {T : TypeId} {fr : Nat × Nat}, w.heap[b]? = some (.cells c' T fr) → T = 56 := fun h1 => by
    rw [h1] at hb
    simp only [Option.some.injEq, Obj.cells.injEq] at hb
    exact hb.2.1
  rw [mem4] at hm
  rcases hm with rfl | hm | hm | hm | hm
  · exact absurd (hty h.row.cells) (by decide)
  · obtain ⟨_, hc⟩ := h.row.its.block (mem_blk.1 hm)
    exact absurd (hty hc) (by decide)
  · obtain ⟨_, hc⟩ := h.row.ks.block (mem_blk.1 hm)
    exact absurd (hty hc) (by decide)
  · obtain ⟨_, hc⟩ := h.row.ds.block (mem_blk.1 hm)
    exact absurd (hty hc) (by decide)
  · have key : ∀ {v : Value} {lv : List (List KE)} {F : List Nat}, Chain own W g w v lv F → b ∉ F := fun hc => by
      induction hc with
      | nil => simp
      | cons hp hk hd hr hn hf ih =>
        intro hm
        simp only [List.mem_cons, List.mem_append] at hm
        rcases hm with rfl | hm | hm | hm
        · exact absurd (hty hp) (by decide)
        · obtain ⟨_, hc⟩ := hk.block (mem_blk.1 hm)
          exact absurd (hty hc) (by decide)
        · obtain ⟨_, hc⟩ := hd.block (mem_blk.1 hm)
          exact absurd (hty hc) (by decide)
        · exact ih hm
    exact key h.ch hm
section
variable {R : Int} {C : List Nat} {lf : Nat} {W : World} {g a : Nat} {own : Own} {b : Nat} {its : List NIt} {rest : List (List KE)} {Fo : List Nat} {w w' : World}
theorem Open.stay (h : Open R C lf W g a own b its rest Fo w) (hb : Below w.heap.size w w') : Open R C lf W g a own b its rest Fo w' := by
  obtain ⟨p, vi, kv, dv, up, F, h1, h2, h3⟩ := h.st
  exact ⟨⟨p, vi, kv, dv, up, F, (hb.block _ (Array.getElem?_eq_some_iff.1 h1).1).trans h1, h2.stay hb, h3⟩, h.fl.stay hb, h.bf⟩
theorem shut_at {_c : Array Value} {x : Int} {y z : Value} (hb : w.heap[b]? = some (.cells #[y, z] 56 (0, 0))) (hF : b ∈ Fo) : Over b x ((w.setCell ⟨b, 0, none⟩ (.pointer none)).setCell ⟨b, 1, none⟩ (.int .i64 x)) ∧ Turns g Fo own own w ((w.setCell ⟨b, 0, none⟩ (.pointer none)).setCell ⟨b, 1, none⟩ (.int .i64 x)) :=
  ⟨two_setB hb, Turns.only ((Only.set b 0 w _).trans (Only.set b 1 _ _)) hF hb ty_bk.2.2.2.2.1⟩
end
set_option maxRecDepth 100000 in
set_option maxHeartbeats 1000000 in
theorem put_shut {w : World} {b : Nat} {x : Int} {ka va : Value} (hb : Over b x w) (hx : orOne x ≠ 0) : Calls Try.prog 9 #[.pointer (some ⟨b, 0, none⟩), .agg #[ka, va]] w fun e w' => e = .returned (.int .i64 (orOne x)) ∧ Below w.heap.size w w' := by
  have h : Below w.heap.size w (w.alloc (.cells #[ka, va] 34)) := (Below.refl _ _).alloc (Nat.le_refl _) _
  have HE := Lib.hid (ended_shut ((h.block _ (Array.getElem?_eq_some_iff.1 hb).1).trans hb))
  have HB := Lib.hid h
  clear h hb
  generalize orOne x = ox at *
  go_enter Try.func9, Try.ntmps9
  go_wp2_with fail
  refine HE.out.mono ?_
  rintro e w2 ⟨rfl, h2⟩
  have HB2 : Hid (Below w.heap.size w w2) := HB.out.trans (h2.mono HB.out.size)
  clear h2
  go_wp2
  go_ret
  exact ⟨rfl, HB2.out⟩
def PutTold (N : Bool) (R : Int) (C' : List Nat) (lf : Nat) (W : World) (g a : Nat) (own : Own) (b : Nat) (its' : List NIt) (rest' : List (List KE)) (Fo : List Nat) (w : World) (e : Ending) (w' : World) : Prop :=
  (N = false ∧ e = .returned (.int .i64 1) ∧ Below w.heap.size w w') ∨
    (N = true ∧ ((e = .returned (.int .i64 0) ∧ ∃ own' lf' Fo', lf' ≤ lf ∧ (∀ k ∈ Fo', k ∈ Fo ∨ w.heap.size ≤ k) ∧ Turns g Fo own own' w w' ∧ Open R C' lf' W g a own' b its' rest' Fo' w') ∨ (lf ≠ 0 ∧ e = .returned (.int .i64 5) ∧ ∃ own', Turns g Fo own own' w w' ∧ Over b 5 w')))
set_option maxRecDepth 100000 in
set_option maxHeartbeats 4000000 in
theorem put_open {R : Int} {C : List Nat} {lf : Nat} {W : World} {g a : Nat} {own : Own} {b : Nat} {its : List NIt} {rest : List (List KE)} {Fo : List Nat} {w : World} {ka va : Value} {it : NIt} (h : Open R C lf W g a own b its rest Fo w) (hlf : lf < 1000000) (hl : its.length ≤ 11) (hk : ∀ x ∈ its, x.k.length ≤ 1000) (hm : Smp rest) (hsum : sumD rest + its.length + 1 ≤ 1099511627776)
    (hr : mayNd (lfOf (its.drop (its.length - 1) ++ [it])) = true → Roomy R (putB C its rest it).1 ∧ it.k.length ≤ 1000 ∧ it.v.length ≤ 1000) (hka : Bytes w ka it.k) (hva : Bytes w va it.v) :
    Calls Try.prog 9 #[.pointer (some ⟨b, 0, none⟩), .agg #[ka, va]] w (PutTold (mayNd (lfOf (its.drop (its.length - 1) ++ [it]))) R (putB C its rest it).1 lf W g a own b (putB C its rest it).2.1 (putB C its rest it).2.2 Fo w) := by
  obtain ⟨p, vi, kv, dv, up, F, hb0, hs, rfl⟩ := h.st
  obtain ⟨pa, ca, rfl, -⟩ := hka.any
  obtain ⟨pb, cb, rfl, -⟩ := hva.any
  obtain ⟨A, hA⟩ : ∃ A, A = w.heap.size := ⟨_, rfl⟩
  obtain ⟨W1, hW1⟩ : ∃ W1, W1 = w.alloc (.cells #[.slice pa it.k.length ca, .slice pb it.v.length cb] 34) := ⟨_, rfl⟩
  have hB1 : Below w.heap.size w W1 := by rw [hW1]; exact (Below.refl _ _).alloc (Nat.le_refl _) _
  have hbox : W1.heap[A]? = some (.cells #[.slice pa it.k.length ca, .slice pb it.v.length cb] 34 (0, 0)) := by rw [hA, hW1]; exact heap_alloc_new w _
  have hb1 : W1.heap[b]? = some (.cells #[.pointer (some ⟨p, 0, none⟩), .int .i64 0] 56 (0, 0)) := (hB1.block _ (Array.getElem?_eq_some_iff.1 hb0).1).trans hb0
  have hnb := hs.noB hb0
  have hfl := h.fl
  have hbf := h.bf
  have hAF : ∀ k ∈ b :: (p :: (blk vi ++ (blk kv ++ (blk dv ++ F)))), k < w.heap.size := fun k hk => by
    rcases List.mem_cons.1 hk with rfl | hk
    · exact (Array.getElem?_eq_some_iff.1 hb0).1
    · exact (hs.fr k hk).2.2.2
  -- at whatever later world: b's block, the box
  have HKEEP : Hid (∀ wx, Below W1.heap.size W1 wx → wx.heap[b]? = some (.cells #[.pointer (some ⟨p, 0, none⟩), .int .i64 0] 56 (0, 0)) ∧ wx.heap[A]? = some (.cells #[.slice pa it.k.length ca, .slice pb it.v.length cb] 34 (0, 0)) ∧ St6 own W g wx p true vi kv dv up its [] rest F ∧ BkF R C lf W g a own wx ∧ Below w.heap.size w wx) := fun wx hx => ⟨(hx.block _ (Array.getElem?_eq_some_iff.1 hb1).1).trans hb1, (hx.block _ (Array.getElem?_eq_some_iff.1 hbox).1).trans hbox, (hs.stay hB1).stay hx, (hfl.stay hB1).stay hx, hB1.trans (hx.mono hB1.size)⟩
  have HMY : Hid (∀ wx, Below W1.heap.size W1 wx → Calls Try.prog 21 #[.pointer (some ⟨p, 0, none⟩), .agg #[.slice pa it.k.length ca, .slice pb it.v.length cb]] wx fun e w' => e = .returned (.bool (mayNd (lfOf (its.drop (its.length - 1) ++ [it])))) ∧ Below wx.heap.size wx w') := fun wx hx => mayTake_bk (HKEEP.out wx hx).2.2.1.row (by omega) (hka.below (HKEEP.out wx hx).2.2.2.2) (hva.below (HKEEP.out wx hx).2.2.2.2)
  have HTK : Hid (mayNd (lfOf (its.drop (its.length - 1) ++ [it])) = true → ∀ wx, Below W1.heap.size W1 wx → Calls Try.prog 22 #[.pointer (some ⟨p, 0, none⟩), .agg #[.slice pa it.k.length ca, .slice pb it.v.length cb]] wx (Ret (Told R (putB C its rest it).1 lf W g a own p true (p :: (blk vi ++ (blk kv ++ (blk dv ++ F)))) (putB C its rest it).2.1 ([] :: (putB C its rest it).2.2) wx))) := fun hmay wx hx => by
    obtain ⟨r1, r2, r3⟩ := hr hmay
    exact take_item (HKEEP.out wx hx).2.2.1 rfl (HKEEP.out wx hx).2.2.2.1 hlf hl (fun x hx => by
      rcases List.mem_append.1 hx with hx | hx
      · exact hk x hx
      · obtain rfl : x = it := by simpa using hx
        exact r2) hm hsum r1 (hka.below (HKEEP.out wx hx).2.2.2.2) (hva.below (HKEEP.out wx hx).2.2.2.2) (by omega)
  have HEND : Hid (∀ wx w' v, Below W1.heap.size W1 wx → Told R (putB C its rest it).1 lf W g a own p true (p :: (blk vi ++ (blk kv ++ (blk dv ++ F)))) (putB C its rest it).2.1 ([] :: (putB C its rest it).2.2) wx v w' →
      w'.heap[b]? = some (.cells #[.pointer (some ⟨p, 0, none⟩), .int .i64 0] 56 (0, 0)) ∧ w'.heap[A]? = some (.cells #[.slice pa it.k.length ca, .slice pb it.v.length cb] 34 (0, 0)) ∧ ((v = 0 ∧ ∃ own' lf' Fo', lf' ≤ lf ∧ (∀ k ∈ Fo', k ∈ b :: (p :: (blk vi ++ (blk kv ++ (blk dv ++ F)))) ∨ w.heap.size ≤ k) ∧ Turns g (b :: (p :: (blk vi ++ (blk kv ++ (blk dv ++ F))))) own own' w w' ∧ Open R (putB C its rest it).1 lf' W g a own' b (putB C its rest it).2.1 (putB C its rest it).2.2 Fo' w') ∨ (lf ≠ 0 ∧ v = 5 ∧ ∃ own', Turns g (b :: (p :: (blk vi ++ (blk kv ++ (blk dv ++ F))))) own own' w w'))) := fun wx w' v hx hT => by
    obtain ⟨k1, k2, k3, k4, k5⟩ := HKEEP.out wx hx
    obtain ⟨own9, ht9⟩ := told_turns hT
    have hbk : w'.heap[b]? = wx.heap[b]? := ht9.block b (Array.getElem?_eq_some_iff.1 k1).1 hbf.2.1 hnb hbf.1
    have hak : w'.heap[A]? = wx.heap[A]? := ht9.block A (Array.getElem?_eq_some_iff.1 k2).1 (by have := hfl.glt; omega) (fun hm => by have := hAF A (List.mem_cons_of_mem _ hm); omega) (hfl.new_none (by omega))
    have h0 : Turns g (b :: (p :: (blk vi ++ (blk kv ++ (blk dv ++ F))))) own own w wx := Turns.below k5
    refine ⟨hbk.trans k1, hak.trans k2, ?_⟩
    rcases hT with ⟨rfl, own', lf', vi', kv', dv', up', es', rest', F', h1, h2, h3, h4, h5, h6, h7⟩ | ⟨h1, rfl, own', h2⟩
    · simp only [List.cons.injEq] at h1
      obtain ⟨rfl, rfl⟩ := h1
      refine .inl ⟨rfl, own', lf', b :: (p :: (blk vi' ++ (blk kv' ++ (blk dv' ++ F')))), h2, fun k hk => ?_, h0.trans h6 (fun k hk => .inl (List.mem_cons_of_mem _ hk)), ⟨⟨p, vi', kv', dv', up', F', hbk.trans k1, h4, rfl⟩, h7, (h6.same b (Array.getElem?_eq_some_iff.1 k1).1).trans hbf.1, hbf.2⟩⟩
      rcases List.mem_cons.1 hk with rfl | hk
      · exact .inl (by simp)
      · rcases h5 k hk with h8 | h8
        · exact .inl (List.mem_cons_of_mem _ h8)
        · exact .inr (Nat.le_trans k5.size h8)
    · exact .inr ⟨h1, rfl, own', h0.trans h2 (fun k hk => .inl (List.mem_cons_of_mem _ hk))⟩
  have HEN := Lib.hid (ended_open hb1)
  have HW1 := Lib.hid hW1; have HA := Lib.hid hA
  clear h hb0 hs hka hva hW1 hbox hb1 hnb hfl hbf hAF hr hk hm hsum hl hlf hB1 hA
  obtain ⟨Fo, hFo⟩ : ∃ Fo, Fo = b :: (p :: (blk vi ++ (blk kv ++ (blk dv ++ F)))) := ⟨_, rfl⟩
  rw [← hFo] at HEND ⊢
  have HIN : Hid (b ∈ Fo) := by rw [hFo]; exact List.mem_cons_self
  generalize hla : it.k.length = la at *
  generalize hlb : it.v.length = lb at *
  clear hFo hla hlb
  generalize hN : mayNd (lfOf (its.drop (its.length - 1) ++ [it])) = N at *
  clear hN
  go_enter Try.func9, Try.ntmps9
  go_wp2_with fail
  rw [← HW1.out, ← HA.out]
  refine HEN.out.mono ?_
  rintro e2 w2 ⟨rfl, h2⟩
  have HB2 := Lib.hid h2
  clear h2 HEN
  go_wp2_with fail
  obtain ⟨k1, k2, -⟩ := HKEEP.out w2.drew (HB2.out.drew)
  refine wp_region_heldD (S := (fun w' => w'.cell? ⟨b, 0, none⟩ = some (.pointer (some ⟨p, 0, none⟩)) ∧ w'.cell? ⟨A, 0, none⟩ = some (.slice pa la ca) ∧ w'.cell? ⟨A, 1, none⟩ = some (.slice pb lb cb))) (by kernel_rfl) ?_
  have hHeld : (fun w' => w'.cell? ⟨b, 0, none⟩ = some (.pointer (some ⟨p, 0, none⟩)) ∧ w'.cell? ⟨A, 0, none⟩ = some (.slice pa la ca) ∧ w'.cell? ⟨A, 1, none⟩ = some (.slice pb lb cb)) w2.drew := ⟨cells_of k1 0, cells_of k2 0, cells_of k2 1⟩
  refine wpAnyH_takeAt 0 12 ((.pointer (some ⟨b, 0, none⟩))) rfl rfl (by kernel_rfl) (by kernel_rfl) (by kernel_rfl) (fun _ _ _ h => h) (Or.inl ⟨by rfl, fun w h => by (try dsimp only at h); (try go_split_ands); go_simp⟩) hHeld ?_
  try simp only [Act.put, arr0, arr1, arr2]
  refine wpAnyH_takeAt 1 13 ((.pointer (some ⟨b, 0, none⟩))) rfl rfl (by kernel_rfl) (by kernel_rfl) (by kernel_rfl) (fun _ _ _ h => h) (Or.inl ⟨by rfl, fun w h => by (try dsimp only at h); (try go_split_ands); go_simp⟩) hHeld ?_
  try simp only [Act.put, arr0, arr1, arr2]
  refine wpAnyH_takeAt 2 14 ((.pointer (some ⟨b, 0, none⟩))) rfl rfl (by kernel_rfl) (by kernel_rfl) (by kernel_rfl) (fun _ _ _ h => h) (Or.inl ⟨by rfl, fun w h => by (try dsimp only at h); (try go_split_ands); go_simp⟩) hHeld ?_
  try simp only [Act.put, arr0, arr1, arr2]
  refine wpAnyH_takeAt 3 15 ((.pointer (some ⟨p, 0, none⟩))) rfl rfl (by kernel_rfl) (by kernel_rfl) (by kernel_rfl) (fun _ _ _ h => h) (Or.inl ⟨by rfl, fun w h => by (try dsimp only at h); (try go_split_ands); go_simp⟩) hHeld ?_
  try simp only [Act.put, arr0, arr1, arr2]
  refine wpAnyH_takeAt 4 16 (.agg #[.slice pa la ca, .slice pb lb cb]) rfl rfl (by kernel_rfl) (by kernel_rfl) (by kernel_rfl) (fun _ _ _ h => h) (Or.inl ⟨by rfl, fun w h => by (try dsimp only at h); (try go_split_ands); go_simp⟩) hHeld ?_
  try simp only [Act.put, arr0, arr1, arr2]
  refine wpAnyH_one 5 (by kernel_rfl) (fun K hK => ?_)
  refine wpOp_as rfl rfl 17 (.call { callee := .value (.func 21), args := #[.tmp 15, .tmp 16], argTypes := #[52, 34] }) 4 rfl rfl rfl ?_
  go_simp
  go_at_call 21
  refine (HMY.out w2.drew HB2.out.drew).mono ?_
  rintro e3 w3 ⟨rfl, b3⟩
  have HB3 : Hid (Below W1.heap.size W1 w3) := (HB2.out.drew).trans (b3.mono (HB2.out.drew).size)
  obtain ⟨k3, k4, -⟩ := HKEEP.out w3 HB3.out
  refine hK _ _ ⟨cells_of k3 0, cells_of k4 0, cells_of k4 1⟩ (fun hHeld => ?_)
  clear hK K b3 k1 k2
  try simp only [Act.put, arr0, arr1, arr2]
  refine wpAnyH_takeAt 6 18 (.bool (!N)) rfl rfl (by kernel_rfl) (by kernel_rfl) (by kernel_rfl) (fun _ _ _ h => h) (Or.inl ⟨by rfl, fun w h => by (try dsimp only at h); (try go_split_ands); go_simp⟩) hHeld ?_
  try simp only [Act.put, arr0, arr1, arr2]
  refine wpAnyH_done (by kernel_rfl) ?_ _
  clear hHeld k3 k4
  cases N with
  | false =>
    have HF := Lib.hid (HKEEP.out w3 HB3.out).2.2.2.2
    clear HKEEP HMY HTK HEND HB2 HB3
    go_wp2
    go_ret
    exact .inl ⟨rfl, rfl, HF.out⟩
  | true =>
    go_wp2_with fail
    obtain ⟨k1, k2, -⟩ := HKEEP.out w3.drew (HB3.out.drew)
    refine wp_region_heldD (S := (fun w' => w'.cell? ⟨b, 0, none⟩ = some (.pointer (some ⟨p, 0, none⟩)) ∧ w'.cell? ⟨A, 0, none⟩ = some (.slice pa la ca) ∧ w'.cell? ⟨A, 1, none⟩ = some (.slice pb lb cb))) (by kernel_rfl) ?_
    have hHeld : (fun w' => w'.cell? ⟨b, 0, none⟩ = some (.pointer (some ⟨p, 0, none⟩)) ∧ w'.cell? ⟨A, 0, none⟩ = some (.slice pa la ca) ∧ w'.cell? ⟨A, 1, none⟩ = some (.slice pb lb cb)) w3.drew := ⟨cells_of k1 0, cells_of k2 0, cells_of k2 1⟩
    refine wpAnyH_takeAt 0 19 ((.pointer (some ⟨b, 0, none⟩))) rfl rfl (by kernel_rfl) (by kernel_rfl) (by kernel_rfl) (fun _ _ _ h => h) (Or.inl ⟨by rfl, fun w h => by (try dsimp only at h); (try go_split_ands); go_simp⟩) hHeld ?_
    try simp only [Act.put, arr0, arr1, arr2]
    refine wpAnyH_takeAt 1 20 ((.pointer (some ⟨b, 0, none⟩))) rfl rfl (by kernel_rfl) (by kernel_rfl) (by kernel_rfl) (fun _ _ _ h => h) (Or.inl ⟨by rfl, fun w h => by (try dsimp only at h); (try go_split_ands); go_simp⟩) hHeld ?_
    try simp only [Act.put, arr0, arr1, arr2]
    refine wpAnyH_takeAt 2 21 ((.pointer (some ⟨b, 0, none⟩))) rfl rfl (by kernel_rfl) (by kernel_rfl) (by kernel_rfl) (fun _ _ _ h => h) (Or.inl ⟨by rfl, fun w h => by (try dsimp only at h); (try go_split_ands); go_simp⟩) hHeld ?_
    try simp only [Act.put, arr0, arr1, arr2]
    refine wpAnyH_takeAt 3 22 ((.pointer (some ⟨p, 0, none⟩))) rfl rfl (by kernel_rfl) (by kernel_rfl) (by kernel_rfl) (fun _ _ _ h => h) (Or.inl ⟨by rfl, fun w h => by (try dsimp only at h); (try go_split_ands); go_simp⟩) hHeld ?_
    try simp only [Act.put, arr0, arr1, arr2]
    refine wpAnyH_takeAt 4 23 (.agg #[.slice pa la ca, .slice pb lb cb]) rfl rfl (by kernel_rfl) (by kernel_rfl) (by kernel_rfl) (fun _ _ _ h => h) (Or.inl ⟨by rfl, fun w h => by (try dsimp only at h); (try go_split_ands); go_simp⟩) hHeld ?_
    try simp only [Act.put, arr0, arr1, arr2]
    have HTK3 := Lib.hid (HTK.out (by trivial) w3.drew HB3.out.drew)
    refine wpAnyH_one 5 (by kernel_rfl) (fun K hK => ?_)
    refine wpOp_as rfl rfl 24 (.call { callee := .value (.func 22), args := #[.tmp 22, .tmp 23], argTypes := #[52, 34] }) 35 rfl rfl rfl ?_
    go_simp
    go_at_call 22
    refine HTK3.out.mono ?_
    rintro e4 w4 ⟨v4, rfl, t4⟩
    obtain ⟨k5, k6, hend⟩ := HEND.out w3.drew w4 v4 HB3.out.drew t4
    refine hK _ _ ⟨cells_of k5 0, cells_of k6 0, cells_of k6 1⟩ (fun hHeld => ?_)
    clear hK K t4 k1 k2
    try simp only [Act.put, arr0, arr1, arr2]
    refine wpAnyH_takeAt 6 6 (.int .i64 v4) rfl rfl (by kernel_rfl) (by kernel_rfl) (by kernel_rfl) (fun _ _ _ h => h) (Or.inl ⟨by rfl, fun w h => by (try dsimp only at h); (try go_split_ands); go_simp⟩) hHeld ?_
    try simp only [Act.put, arr0, arr1, arr2]
    refine wpAnyH_done (by kernel_rfl) ?_ _
    clear hHeld k6 HKEEP HMY HTK HEND HB2 HB3 HTK3
    rcases hend with ⟨rfl, hok⟩ | ⟨hl0, rfl, own5, ht5⟩
    · have HOK := Lib.hid hok
      clear hok k5
      go_wp2
      go_ret
      exact .inr ⟨rfl, .inl ⟨rfl, HOK.out⟩⟩
    · have HEB := Lib.hid (end_bk (x := 5) k5)
      have hsh := shut_at (_c := #[]) (x := 5) (g := g) (own := own5) (Fo := Fo) k5
      have HT5 := Lib.hid ht5; have HSH := Lib.hid hsh; have HL0 := Lib.hid hl0
      clear hsh ht5 hl0 k5
      go_wp2_with fail
      refine HEB.out.mono ?_
      rintro e6 w6 ⟨rfl, rfl⟩
      go_wp2
      go_ret
      exact .inr ⟨rfl, .inr ⟨HL0.out, rfl, own5, HT5.out.trans (HSH.out HIN.out).2 (fun k hk => .inl hk), (HSH.out HIN.out).1⟩⟩
end Go.Proofs.Ytajfcnaifegonaa.Sl.Nd
/- Rows made trees, in a program: Done. -/
namespace Go.Proofs.Ytajfcnaifegonaa.Sl.Nd
open Go Go.RowKit Go.By
def DoneTold (R : Int) (C' : List Nat) (d : NKd) (lf : Nat) (W : World) (g a : Nat) (own : Own) (b : Nat) (Fo : List Nat) (w : World) (e : Ending) (w' : World) : Prop :=
  (e = .returned (.tuple #[.agg #[.int .i64 d.off, .int .u64 (d.ct : Nat)], .int .i64 0]) ∧ ∃ own' lf', lf' ≤ lf ∧ Turns g Fo own own' w w' ∧ BkF R C' lf' W g a own' w' ∧ Over b 0 w') ∨
    (lf ≠ 0 ∧ e = .returned (.tuple #[.agg #[.int .i64 0, .int .u64 0], .int .i64 5]) ∧ ∃ own', Turns g Fo own own' w w' ∧ Over b 5 w')
set_option maxRecDepth 100000 in
set_option maxHeartbeats 1000000 in
theorem done_shut {w : World} {b : Nat} {x : Int} (hb : Over b x w) (hx : orOne x ≠ 0) : Calls Try.prog 10 #[.pointer (some ⟨b, 0, none⟩)] w fun e w' => e = .returned (.tuple #[.agg #[.int .i64 0, .int .u64 0], .int .i64 (orOne x)]) ∧ Below w.heap.size w w' := by
  obtain ⟨W1, hW1⟩ : ∃ W1, W1 = w.alloc (.cells #[.int .i64 0, .int .u64 0] 39) := ⟨_, rfl⟩
  have h : Below w.heap.size w W1 := by rw [hW1]; exact (Below.refl _ _).alloc (Nat.le_refl _) _
  have hA : W1.heap[w.heap.size]? = some (.cells #[.int .i64 0, .int .u64 0] 39 (0, 0)) := by rw [hW1]; exact heap_alloc_new w _
  have HE := Lib.hid (ended_shut ((h.block _ (Array.getElem?_eq_some_iff.1 hb).1).trans hb))
  have HB := Lib.hid h; have HA := Lib.hid hA; have HW1 := Lib.hid hW1
  clear h hb hA hW1
  generalize orOne x = ox at *
  go_enter Try.func10, Try.ntmps10
  go_wp2_with fail
  rw [← HW1.out]
  refine HE.out.mono ?_
  rintro e w2 ⟨rfl, h2⟩
  have hx2 := (h2.block _ (Array.getElem?_eq_some_iff.1 HA.out).1).trans HA.out
  have t0 : w2.cell? ⟨w.heap.size, 0, none⟩ = some (.int .i64 0) := cells_of hx2 0
  have t1 : w2.cell? ⟨w.heap.size, 1, none⟩ = some (.int .u64 0) := cells_of hx2 1
  have q0 := free_of hx2 0; have q1 := free_of hx2 1
  have HX := Lib.hid (fun (_ : Unit) => two_setB (a := .int .i64 0) (b := .int .u64 0) hx2)
  have hb2 : Below w.heap.size w w2 := HB.out.trans (h2.mono HB.out.size)
  have HF : Hid (Below w.heap.size w ((w2.setCell ⟨w.heap.size, 0, none⟩ (.int .i64 0)).setCell ⟨w.heap.size, 1, none⟩ (.int .u64 0))) := (hb2.setCell (p := ⟨w.heap.size, 0, none⟩) (Nat.le_refl _) _).setCell (p := ⟨w.heap.size, 1, none⟩) (Nat.le_refl _) _
  clear hx2 h2 hb2
  go_wp2
  refine bodyPost_ret (cell2B (p := 2) (u := 3) (x := .int .i64 ox) (ty := 39) (n := 2) (by kernel_rfl) (by kernel_rfl) (by kernel_rfl) rfl rfl (HX.out ()) rfl) rfl ?_
  exact ⟨rfl, HF.out⟩
set_option maxRecDepth 100000 in
set_option maxHeartbeats 4000000 in
theorem done_open {R : Int} {C C' : List Nat} {lf : Nat} {W : World} {g a : Nat} {own : Own} {b : Nat} {its : List NIt} {rest : List (List KE)} {Fo : List Nat} {w : World} {d : NKd} (h : Open R C lf W g a own b its rest Fo w) (hlf : lf < 1000000) (hr : Roomy R C') (hd : doneB C its rest = some (C', d)) (hm : Smp rest) (hsum : sumD rest + its.length ≤ 1099511627776)
    (hl : its.length ≤ 11) (hk : ∀ x ∈ its, x.k.length ≤ 1000) : Calls Try.prog 10 #[.pointer (some ⟨b, 0, none⟩)] w (DoneTold R C' d lf W g a own b Fo w) := by
  obtain ⟨p, vi, kv, dv, up, F, hb0, hs, rfl⟩ := h.st
  obtain ⟨A, hA⟩ : ∃ A, A = w.heap.size := ⟨_, rfl⟩
  obtain ⟨W1, hW1⟩ : ∃ W1, W1 = w.alloc (.cells #[.int .i64 0, .int .u64 0] 39) := ⟨_, rfl⟩
  have hB1 : Below w.heap.size w W1 := by rw [hW1]; exact (Below.refl _ _).alloc (Nat.le_refl _) _
  have hA1 : W1.heap[A]? = some (.cells #[.int .i64 0, .int .u64 0] 39 (0, 0)) := by rw [hA, hW1]; exact heap_alloc_new w _
  have hb1 : W1.heap[b]? = some (.cells #[.pointer (some ⟨p, 0, none⟩), .int .i64 0] 56 (0, 0)) := (hB1.block _ (Array.getElem?_eq_some_iff.1 hb0).1).trans hb0
  have hnb := hs.noB hb0
  have hfl := h.fl
  have hbf := h.bf
  have hbl : b < w.heap.size := (Array.getElem?_eq_some_iff.1 hb0).1
  obtain ⟨Fo, hFo⟩ : ∃ Fo, Fo = b :: (p :: (blk vi ++ (blk kv ++ (blk dv ++ F)))) := ⟨_, rfl⟩
  have hAF : ∀ k ∈ Fo, k < A := fun k hk => by
    rw [hFo] at hk
    rw [hA]
    rcases List.mem_cons.1 hk with rfl | hk
    · exact hbl
    · exact (hs.fr k hk).2.2.2
  have hgl := hfl.glt
  have hoA : own A = none := hfl.new_none (by omega)
  have HCL : Hid (∀ wx, Below W1.heap.size W1 wx → Calls Try.prog 24 #[.pointer (some ⟨p, 0, none⟩)] wx (Shut R C' d lf W g a own (p :: (blk vi ++ (blk kv ++ (blk dv ++ F)))) wx)) := fun wx hx => closed_items hr ((hs.stay hB1).stay hx) ((hfl.stay hB1).stay hx) hlf hd hm hsum hl hk
  -- what stands behind it, whatever it told
  have HTA : Hid (∀ wx w4 own4, Below W1.heap.size W1 wx → Turns g (p :: (blk vi ++ (blk kv ++ (blk dv ++ F)))) own own4 wx w4 → Turns g Fo own own4 w w4 ∧ w4.heap[b]? = some (.cells #[.pointer (some ⟨p, 0, none⟩), .int .i64 0] 56 (0, 0)) ∧ w4.heap[A]? = some (.cells #[.int .i64 0, .int .u64 0] 39 (0, 0)) ∧ (own4 b = none ∧ b ≠ g ∧ W.heap.size ≤ b) ∧ (own4 A = none ∧ A ≠ g ∧ W.heap.size ≤ A)) := fun wx w4 own4 hx ht => by
    have kb := (hx.block _ (Array.getElem?_eq_some_iff.1 hb1).1).trans hb1
    have ka := (hx.block _ (Array.getElem?_eq_some_iff.1 hA1).1).trans hA1
    have kbl := (Array.getElem?_eq_some_iff.1 kb).1
    have kal := (Array.getElem?_eq_some_iff.1 ka).1
    refine ⟨(Turns.below (F := Fo) (hB1.trans (hx.mono hB1.size))).trans ht (fun k hk => .inl (by rw [hFo]; exact List.mem_cons_of_mem _ hk)), (ht.block b kbl hbf.2.1 hnb hbf.1).trans kb, (ht.block A kal (by omega) (fun hm => by have := hAF A (by rw [hFo]; exact List.mem_cons_of_mem _ hm); omega) hoA).trans ka, ⟨(ht.same b kbl).trans hbf.1, hbf.2⟩, ⟨(ht.same A kal).trans hoA, by omega, by omega⟩⟩
  have HFN : Hid (∀ w4 own4 (e off ct : Int) (x y : Value), Turns g Fo own own4 w w4 → w4.heap[b]? = some (.cells #[.pointer (some ⟨p, 0, none⟩), .int .i64 0] 56 (0, 0)) → w4.heap[A]? = some (.cells #[.int .i64 0, .int .u64 0] 39 (0, 0)) → (own4 b = none ∧ b ≠ g ∧ W.heap.size ≤ b) → (own4 A = none ∧ A ≠ g ∧ W.heap.size ≤ A) →
      ∀ W5 w6 w7, W5 = w4.alloc (.cells #[.int .i64 off, .int .u64 ct] 39) → w6 = (W5.setCell ⟨b, 0, none⟩ (.pointer none)).setCell ⟨b, 1, none⟩ (.int .i64 e) → w7 = (w6.setCell ⟨A, 0, none⟩ x).setCell ⟨A, 1, none⟩ y →
      W5.heap[b]? = some (.cells #[.pointer (some ⟨p, 0, none⟩), .int .i64 0] 56 (0, 0)) ∧ w6.heap[A]? = some (.cells #[.int .i64 0, .int .u64 0] 39 (0, 0)) ∧ w6.heap[w4.heap.size]? = some (.cells #[.int .i64 off, .int .u64 ct] 39 (0, 0)) ∧ Turns g Fo own own4 w w7 ∧ Over b e w7 ∧ ∀ C2 lf2, BkF R C2 lf2 W g a own4 w4 → BkF R C2 lf2 W g a own4 w7) := by
    rintro w4 own4 e off ct x y ht kb ka hob hoA W5 w6 w7 rfl rfl rfl
    have hbA : A ≠ b := by omega
    have b5 : Below w4.heap.size w4 (w4.alloc (.cells #[.int .i64 off, .int .u64 ct] 39)) := (Below.refl _ _).alloc (Nat.le_refl _) _
    have kbl := (Array.getElem?_eq_some_iff.1 kb).1
    have kal := (Array.getElem?_eq_some_iff.1 ka).1
    have h5 := (b5.block b kbl).trans kb
    have o6 : Only b (w4.alloc (.cells #[.int .i64 off, .int .u64 ct] 39)) (((w4.alloc (.cells #[.int .i64 off, .int .u64 ct] 39)).setCell ⟨b, 0, none⟩ (.pointer none)).setCell ⟨b, 1, none⟩ (.int .i64 e)) := (Only.set b 0 _ _).trans (Only.set b 1 _ _)
    obtain ⟨w6, hw6⟩ : ∃ w6, w6 = ((w4.alloc (.cells #[.int .i64 off, .int .u64 ct] 39)).setCell ⟨b, 0, none⟩ (.pointer none)).setCell ⟨b, 1, none⟩ (.int .i64 e) := ⟨_, rfl⟩
    have hov := (shut_at (_c := #[]) (x := e) (g := g) (own := own4) (Fo := Fo) h5 (by rw [hFo]; exact List.mem_cons_self))
    rw [← hw6] at o6 hov ⊢
    have n5 := heap_alloc_new w4 (.cells #[.int .i64 off, .int .u64 ct] 39)
    have hsz := o6.size
    have k6 : w6.heap[A]? = some (.cells #[.int .i64 0, .int .u64 0] 39 (0, 0)) := (o6.block A (Nat.lt_of_lt_of_le kal b5.size) hbA).trans ((b5.block A kal).trans ka)
    have n6 : w6.heap[w4.heap.size]? = some (.cells #[.int .i64 off, .int .u64 ct] 39 (0, 0)) := (o6.block _ (Array.getElem?_eq_some_iff.1 n5).1 (by omega)).trans n5
    have o7 : Only A w6 ((w6.setCell ⟨A, 0, none⟩ x).setCell ⟨A, 1, none⟩ y) := (Only.set A 0 _ _).trans (Only.set A 1 _ _)
    refine ⟨h5, k6, n6, ((ht.trans (Turns.below (F := []) b5) (by simp)).trans hov.2 (fun k hk => .inl hk)).trans (Turns.only (F := [A]) o7 (by simp) k6 ty_bk.2.2.1) (fun k hk => .inr (by obtain rfl := List.mem_singleton.1 hk; omega)), ?_, fun C2 lf2 hf => ((hf.stay b5).only o6 hob).only o7 hoA⟩
    exact (o7.block b (Array.getElem?_eq_some_iff.1 hov.1).1 (fun e => hbA e.symm)).trans hov.1
  have HEN := Lib.hid (ended_open hb1)
  have HB1 := Lib.hid hb1; have HW1 := Lib.hid hW1; have HA := Lib.hid hA
  rw [← hFo]
  clear h hb0 hs hW1 hA1 hb1 hnb hfl hbf hAF hr hd hm hsum hl hk hlf hB1 hA hbl hgl hoA hFo
  go_enter Try.func10, Try.ntmps10
  go_wp2_with fail
  rw [← HW1.out, ← HA.out]
  refine HEN.out.mono ?_
  rintro e2 w2 ⟨rfl, h2⟩
  have hbb := (h2.block _ (Array.getElem?_eq_some_iff.1 HB1.out).1).trans HB1.out
  have c0 : w2.cell? ⟨b, 0, none⟩ = some (.pointer (some ⟨p, 0, none⟩)) := cells_of hbb 0
  have HB2 := Lib.hid h2
  clear h2 HEN hbb
  go_wp2_with fail
  refine (HCL.out w2 HB2.out).mono ?_
  rintro e4 w4 (⟨rfl, own4, lf4, hl4, ht4, hk4⟩ | ⟨hl0, rfl, own4, ht4⟩)
  · obtain ⟨a1, a2, a3, a4, a5⟩ := HTA.out w2 w4 own4 HB2.out ht4
    obtain ⟨W5, hW5⟩ : ∃ W5, W5 = w4.alloc (.cells #[.int .i64 d.off, .int .u64 (d.ct : Nat)] 39) := ⟨_, rfl⟩
    obtain ⟨w6, hw6⟩ : ∃ w6, w6 = (W5.setCell ⟨b, 0, none⟩ (.pointer none)).setCell ⟨b, 1, none⟩ (.int .i64 0) := ⟨_, rfl⟩
    obtain ⟨f1, f2, f3, f4, f5, f6⟩ := HFN.out w4 own4 0 d.off (d.ct : Nat) (.int .i64 d.off) (.int .u64 (d.ct : Nat)) a1 a2 a3 a4 a5 W5 w6 _ hW5 hw6 rfl
    have HEB : Hid (Calls Try.prog 23 #[.pointer (some ⟨b, 0, none⟩), .int .i64 0] W5 fun e w' => e = .returned (.tuple #[]) ∧ w' = w6) := by rw [hw6]; exact end_bk f1
    have t0 : w6.cell? ⟨A, 0, none⟩ = some (.int .i64 0) := cells_of f2 0
    have t1 : w6.cell? ⟨A, 1, none⟩ = some (.int .u64 0) := cells_of f2 1
    have q0 := free_of f2 0; have q1 := free_of f2 1
    have t2 : w6.cell? ⟨w4.heap.size, 0, none⟩ = some (.int .i64 d.off) := cells_of f3 0
    have t3 : w6.cell? ⟨w4.heap.size, 1, none⟩ = some (.int .u64 (d.ct : Nat)) := cells_of f3 1
    have HX := Lib.hid (fun (_ : Unit) => two_setB (a := .int .i64 d.off) (b := .int .u64 (d.ct : Nat)) f2)
    have HF : Hid (DoneTold R C' d lf W g a own b Fo w (.returned (.tuple #[.agg #[.int .i64 d.off, .int .u64 (d.ct : Nat)], .int .i64 0])) ((w6.setCell ⟨A, 0, none⟩ (.int .i64 d.off)).setCell ⟨A, 1, none⟩ (.int .u64 (d.ct : Nat)))) := .inl ⟨rfl, own4, lf4, hl4, f4, f6 _ _ hk4, f5⟩
    have HW5 := Lib.hid hW5
    clear a1 a2 a3 a4 a5 hW5 hw6 f1 f2 f3 f4 f5 f6 hk4 hl4 ht4
    go_wp2_with fail
    rw [← HW5.out]
    refine HEB.out.mono ?_
    rintro e6 w8 ⟨rfl, rfl⟩
    go_wp2
    exact bodyPost_ret (cell2B (p := 2) (u := 3) (x := .int .i64 0) (ty := 39) (n := 2) (by kernel_rfl) (by kernel_rfl) (by kernel_rfl) rfl rfl (HX.out ()) rfl) rfl HF.out
  · obtain ⟨a1, a2, a3, a4, a5⟩ := HTA.out w2 w4 own4 HB2.out ht4
    obtain ⟨W5, hW5⟩ : ∃ W5, W5 = w4.alloc (.cells #[.int .i64 0, .int .u64 0] 39) := ⟨_, rfl⟩
    obtain ⟨w6, hw6⟩ : ∃ w6, w6 = (W5.setCell ⟨b, 0, none⟩ (.pointer none)).setCell ⟨b, 1, none⟩ (.int .i64 5) := ⟨_, rfl⟩
    obtain ⟨f1, f2, f3, f4, f5, f6⟩ := HFN.out w4 own4 5 0 0 (.int .i64 0) (.int .u64 0) a1 a2 a3 a4 a5 W5 w6 _ hW5 hw6 rfl
    have HEB : Hid (Calls Try.prog 23 #[.pointer (some ⟨b, 0, none⟩), .int .i64 5] W5 fun e w' => e = .returned (.tuple #[]) ∧ w' = w6) := by rw [hw6]; exact end_bk f1
    have t0 : w6.cell? ⟨A, 0, none⟩ = some (.int .i64 0) := cells_of f2 0
    have t1 : w6.cell? ⟨A, 1, none⟩ = some (.int .u64 0) := cells_of f2 1
    have q0 := free_of f2 0; have q1 := free_of f2 1
    have t2 : w6.cell? ⟨w4.heap.size, 0, none⟩ = some (.int .i64 0) := cells_of f3 0
    have t3 : w6.cell? ⟨w4.heap.size, 1, none⟩ = some (.int .u64 0) := cells_of f3 1
    have HX := Lib.hid (fun (_ : Unit) => two_setB (a := .int .i64 0) (b := .int .u64 0) f2)
    have HF : Hid (DoneTold R C' d lf W g a own b Fo w (.returned (.tuple #[.agg #[.int .i64 0, .int .u64 0], .int .i64 5])) ((w6.setCell ⟨A, 0, none⟩ (.int .i64 0)).setCell ⟨A, 1, none⟩ (.int .u64 0))) := .inr ⟨hl0, rfl, own4, f4, f5⟩
    have HW5 := Lib.hid hW5
    clear a1 a2 a3 a4 a5 hW5 hw6 f1 f2 f3 f4 f5 f6 hl0 ht4
    go_wp2_with fail
    rw [← HW5.out]
    refine HEB.out.mono ?_
    rintro e6 w8 ⟨rfl, rfl⟩
    go_wp2
    exact bodyPost_ret (cell2B (p := 2) (u := 3) (x := .int .i64 5) (ty := 39) (n := 2) (by kernel_rfl) (by kernel_rfl) (by kernel_rfl) rfl rfl (HX.out ()) rfl) rfl HF.out
end Go.Proofs.Ytajfcnaifegonaa.Sl.Nd
/- Rows made trees: what the laws lean on: items by their numbers; it has begun. -/
namespace Go.By
open Go
theorem Fit.nil : Fit [] := ⟨.nil, fun i hi => (by cases hi), by simp⟩
theorem may_of_fit {l : List NIt} (h : Fit l) (h8 : 1 ≤ l.length ∧ l.length ≤ 8) : mayNd (lfOf l) = true := by
  unfold mayNd
  rw [if_pos (show (lfOf l).leaf = true from rfl), mayLf_iff]
  refine ⟨h8, fun i hi => (h.fine i hi).1, pw_risesK ?_, rfl, rfl⟩
  rw [List.pairwise_map]
  exact h.rise
theorem FineI.key {i : NIt} (h : FineI i) : 1 ≤ i.k.length ∧ i.k.length ≤ 40 ∧ i.v.length ≤ 120 := by
  have h1 := (mayIt_iff i).1 h.1
  have h2 := (mayK_iff i.k).1 h1.1
  exact ⟨h2.1, h2.2, h1.2⟩
def sqIt (k : Nat) : List NIt := (List.range k).map fun i => ⟨highOf i 8, [i % 256]⟩
theorem sqIt_succ (k : Nat) : sqIt (k + 1) = sqIt k ++ [⟨highOf k 8, [k % 256]⟩] := by simp [sqIt, List.range_succ]
theorem sqIt_length (k : Nat) : (sqIt k).length = k := by simp [sqIt]
theorem sqIt_fit {k : Nat} (hk : k ≤ 1000000) : Fit (sqIt k) := by
  refine ⟨?_, fun i hi => ?_, by rw [sqIt_length]; exact hk⟩
  · unfold sqIt
    rw [List.pairwise_map]
    refine (List.pairwise_lt_range (n := k)).imp_of_mem ?_
    intro a b ha hb hab
    have h1 := List.mem_range.1 ha
    have h2 := List.mem_range.1 hb
    show lessN (highOf a 8) (highOf b 8) = true
    rw [lessN_high 8 a b (by omega) (by omega)]
    simpa using hab
  · obtain ⟨j, hj, rfl⟩ := List.mem_map.1 hi
    refine ⟨?_, highOf_small j 8, fun c hc => ?_⟩
    · rw [mayIt_iff, mayK_iff, highOf_length]
      exact ⟨⟨by omega, by omega⟩, by simp⟩
    · obtain rfl : c = j % 256 := by simpa using hc
      omega
end Go.By
namespace Go.Proofs.Ytajfcnaifegonaa.Sl.Nd
open Go Go.RowKit Go.By
theorem okL_smp {Z C : List Nat} : ∀ {h : Nat} {lvls : List (List KE)}, OkL Z C h lvls → (∀ i ∈ allK lvls, FineI i) → Smp lvls ∧ sumD lvls = (allK lvls).length
  | _, [], _, _ => ⟨fun x hx => (by cases hx), rfl⟩
  | h, es :: rest, ⟨h1, h2, h3, h4⟩, hf => by
    obtain ⟨g1, g2⟩ := okL_smp h4 (fun i hi => hf i (by simp [allK, hi]))
    refine ⟨Smp.cons h2.2 (fun x hx => ?_) g1, ?_⟩
    · obtain ⟨j, hj, e⟩ := (h1 x hx).key
      rw [← e]
      have := (hf j (by simp only [allK, List.mem_append]; right; exact List.mem_flatten.2 ⟨_, List.mem_map_of_mem hx, hj⟩)).key
      omega
    · rw [sumD_cons, g2, allK, List.length_append, sum_itsE (fun e he => (h1 e he).ct)]
      omega
def zZ : List Nat := zero128 ++ zero128
theorem zZ_length : zZ.length = 256 := by rw [zZ, List.length_append, zero128_length]
structure Good (C : List Nat) (its : List NIt) (rest : List (List KE)) (all : List NIt) : Prop where
  ok : OkB zZ C its rest all
  fit : Fit all
theorem Good.small {C : List Nat} {its : List NIt} {rest : List (List KE)} {all : List NIt} (h : Good C its rest all) (hn : all.length ≤ 700000) : its.length ≤ 11 ∧ (∀ x ∈ its, x.k.length ≤ 1000) ∧ Smp rest ∧ sumD rest + its.length ≤ 700000 := by
  have he := h.ok.all
  have hf := h.fit
  obtain ⟨g1, g2⟩ := okL_smp h.ok.ok (fun i hi => hf.fine i (by rw [he]; simp [hi]))
  refine ⟨h.ok.len, fun x hx => ?_, g1, ?_⟩
  · have := (hf.fine x (by rw [he]; simp [hx])).key
    omega
  · rw [g2]
    rw [he, List.length_append] at hn
    exact hn
theorem Good.may {C : List Nat} {its : List NIt} {rest : List (List KE)} {all : List NIt} {it : NIt} (h : Good C its rest all) (hf : Fit (all ++ [it])) : mayNd (lfOf (its.drop (its.length - 1) ++ [it])) = true := by
  refine may_of_fit (hf.sub ?_) ⟨by simp, by simp; omega⟩
  rw [h.ok.all, List.append_assoc]
  exact ((List.drop_sublist _ _).append_right _).trans (List.sublist_append_right _ _)
theorem Good.put {C : List Nat} {its : List NIt} {rest : List (List KE)} {all : List NIt} {it : NIt} (h : Good C its rest all) (hf : Fit (all ++ [it])) (hn : all.length ≤ 700000) : Good (putB C its rest it).1 (putB C its rest it).2.1 (putB C its rest it).2.2 (all ++ [it]) := ⟨putB_ok zZ_length h.ok hf hn, hf⟩
theorem Good.roomy {R : Int} {C : List Nat} {its : List NIt} {rest : List (List KE)} {all : List NIt} (h : Good C its rest all) (hn : all.length ≤ 760) (hR : 16777216 ≤ R ∧ R ≤ 1099511627776) : Roomy R C := by
  have := h.ok.room
  exact ⟨by omega, by omega⟩
theorem Good.none : Good [] [] [] [] := ⟨OkB.none zZ, Fit.nil⟩
theorem bk_of_tf {R : Int} {W w : World} {g a : Nat} {own : Own} (h : Tf (fsT R [] [.cut 256]) W g a 2 own w) : BkF R [] 0 W g a own w := by
  refine ⟨2, [.cut 256], h.disk, ?_, by simp, by simp⟩
  have := h.file
  rw [fsT_len] at this
  exact this
theorem BkF.tf {R : Int} {C : List Nat} {W w : World} {g a : Nat} {own : Own} (h : BkF R C 0 W g a own w) : ∃ o os, Tf (fsT R C os) W g a o own w ∧ 9 * o ≤ C.length + 18 ∧ 9 * os.length ≤ C.length + 9 := by
  obtain ⟨o, os, h1, h2, h3, h4⟩ := h
  exact ⟨o, os, ⟨h1, by rw [fsT_len]; exact h2⟩, h3, h4⟩
theorem open_new {R : Int} {lf : Nat} {W w w' : World} {g a : Nat} {own : Own} {b p : Nat} (hf : BkF R [] lf W g a own w) (hb : w.heap.size ≤ b) (hp : w.heap.size ≤ p) (hbp : b ≠ p) (h1 : w'.heap[b]? = some (.cells #[.pointer (some ⟨p, 0, none⟩), .int .i64 0] 56 (0, 0))) (h2 : w'.heap[p]? = some (.cells (rowC p g true (.slice none 0 0) (.slice none 0 0) (.slice none 0 0) (.pointer none)) 82 (0, 0))) (h3 : Below w.heap.size w w') :
    Open R [] lf W g a own b [] [] (b :: (p :: (blk (.slice none 0 0) ++ (blk (.slice none 0 0) ++ (blk (.slice none 0 0) ++ []))))) w' := by
  have hg := hf.glt
  have hpl : p < w'.heap.size := (Array.getElem?_eq_some_iff.1 h2).1
  refine ⟨⟨p, _, _, _, _, _, h1, ⟨⟨h2, ItT.nil, KyT.nil, KdT.nil⟩, .nil, by simp [blk, Value.ownBlock], fun k hk => ?_⟩, rfl⟩, hf.stay h3, hf.new_none hb, by omega, by omega⟩
  obtain rfl : k = p := by simpa [blk, Value.ownBlock] using hk
  exact ⟨hf.new_none hp, by omega, by omega, hpl⟩
set_option maxRecDepth 100000 in
theorem new13_bk (w : World) : Calls Try.prog 6 #[] w fun e w' => ∃ a g own, e = .returned (.tuple #[.pointer (some ⟨a, 0, none⟩), .pointer (some ⟨g, 0, none⟩), .bool true]) ∧ BkF 16777216 [] 0 w g a own w' := by
  go_enter Try.func6, Try.ntmps6
  go_wp2_with fail
  refine (new_any 16777216 w).mono ?_
  rintro e w1 ⟨rfl, hd1, hb1⟩
  have HD1 := Lib.hid (Dsk.new hd1 hb1)
  clear hd1 hb1
  go_wp2_with fail
  refine (new_file tT tT_may (by decide +kernel) 16777216 (by omega) HD1.out).mono ?_
  rintro e w2 ⟨g, own2, hg, rfl, hst2, hd2, hf2⟩
  have HT2 := Lib.hid (made_tf hd2 hf2)
  clear hg hst2 hd2 hf2 HD1
  go_wp2
  go_returns
  exact ⟨_, _, _, rfl, bk_of_tf HT2.out⟩
set_option maxRecDepth 100000 in
theorem seq_bk (k : Nat) (hk : k < 1000000) (w : World) : Calls Try.prog 8 #[.int .i64 (k : Nat)] w fun e w' => ∃ v', e = .returned v' ∧ w'.ownsRow w.heap.size 5 1 v' (highOf k 8).length (cellsOf (highOf k 8)) ∧ Below w.heap.size w w' := by
  have hk9 : (k : Int) ≤ 9223372036854775807 := by omega
  go_enter Try.func8, Try.ntmps8
  go_wp2_with fail
  refine (high_any k 8 w (by omega) (by omega)).mono ?_
  rintro e w2 ⟨v2, rfl, ho2, hb2⟩
  go_wp2
  go_ret
  exact ⟨_, rfl, by rw [highOf_length]; exact ho2, hb2⟩
def itA : NIt := ⟨[97], []⟩
theorem may_A : mayNd (lfOf (([] : List NIt).drop (([] : List NIt).length - 1) ++ [itA])) = true := by decide
theorem may_AA : mayNd (lfOf ([itA].drop ([itA].length - 1) ++ [itA])) = false := by decide
theorem done_A : doneB [] [itA] [] = some (recOf 2 (putNd (lfOf [itA])), ⟨256, 1⟩) := rfl
set_option maxRecDepth 100000 in
set_option maxHeartbeats 1000000 in
theorem begun16_any (w : World) : Calls Try.prog 5 #[] w fun e w' => e = .returned (.bool true) ∧ Below w.heap.size w w' := by
  have hcv := fun (w : World) (C : Array Value) (n c : Nat) => Lib.run_convert_bytes_const (P := Try.prog) w 31 5 C n c byT.slice byT.elem
  go_enter Try.func5, Try.ntmps5
  go_wp2_with fail
  refine (new_any 10000 w).mono ?_
  rintro e w1 ⟨rfl, hd1, hb1⟩
  have HD1 := Lib.hid (Dsk.new hd1 hb1)
  clear hd1 hb1
  go_wp2_with fail
  refine (new_file tT tT_may (by decide +kernel) 10000 (by omega) HD1.out).mono ?_
  rintro e w2 ⟨g, own2, hg, rfl, hst2, hd2, hf2⟩
  have HT2 := Lib.hid (bk_of_tf (made_tf hd2 hf2))
  clear hg hst2 hd2 hf2 HD1
  go_wp2_with fail
  refine (new_bk g w2).mono ?_
  rintro e w3 ⟨b, p, rfl, h31, h32, h33, h34, h35, h36⟩
  obtain ⟨Fo3, ho3⟩ : ∃ Fo3, Open 10000 [] 0 w g w.heap.size own2 b [] [] Fo3 w3 := ⟨_, open_new HT2.out h31 h32 h33 h34 h35 h36⟩
  have HO3 := Lib.hid ho3
  clear ho3 h31 h32 h33 h34 h35 h36
  obtain ⟨W, hW⟩ : ∃ W, W = allocs w3 [.cells #[.int .u8 97] 5 (1, 2)] := ⟨_, rfl⟩
  have hb : Below w3.heap.size w3 W := by rw [hW]; exact allocs_below _ _
  have b0 : Bytes W (.slice (some ⟨w3.heap.size, 0, none⟩) 1 1) itA.k := bytes_at [97] (by rw [hW]; exact allocs_at (i := 0) rfl) rfl rfl (by decide) (by decide)
  have HP3 : Hid (Calls Try.prog 9 #[.pointer (some ⟨b, 0, none⟩), .agg #[.slice (some ⟨w3.heap.size, 0, none⟩) 1 1, .slice none 0 0]] W (PutTold true 10000 [] 0 w g w.heap.size own2 b [itA] [] Fo3 W)) := by
    have := put_open (R := 10000) (it := itA) (HO3.out.stay hb) (by decide) (by decide) (by simp) (fun x hx => (by cases hx)) (by decide) (fun _ => ⟨⟨by decide, by decide⟩, by decide, by decide⟩) b0 (Bytes.nil _)
    rw [may_A] at this
    exact this
  have HW := Lib.hid hW
  clear hb b0 HO3 hW
  go_wp2_with fail
  have e3 : allocs w3 [.cells #[.int .u8 97] 5 (1, 2)] = w3.alloc (.cells #[.int .u8 97] 5 (1, 2)) := rfl
  rw [← e3, ← HW.out]
  clear e3 HW
  refine HP3.out.mono ?_
  rintro e4 w4 (⟨h, _⟩ | ⟨_, (⟨rfl, own4, lf4, Fo4, hl4, _, _, ho4⟩ | ⟨h0, _⟩)⟩)
  · cases h
  · obtain rfl : lf4 = 0 := by omega
    have HO4 := Lib.hid ho4
    clear hl4 ho4 HP3
    obtain ⟨W5, hW5⟩ : ∃ W5, W5 = allocs w4 [.cells #[.int .u8 97] 5 (1, 2)] := ⟨_, rfl⟩
    have hb5 : Below w4.heap.size w4 W5 := by rw [hW5]; exact allocs_below _ _
    have b5 : Bytes W5 (.slice (some ⟨w4.heap.size, 0, none⟩) 1 1) itA.k := bytes_at [97] (by rw [hW5]; exact allocs_at (i := 0) rfl) rfl rfl (by decide) (by decide)
    have HO5 := Lib.hid (HO4.out.stay hb5)
    have HP5 : Hid (Calls Try.prog 9 #[.pointer (some ⟨b, 0, none⟩), .agg #[.slice (some ⟨w4.heap.size, 0, none⟩) 1 1, .slice none 0 0]] W5 (PutTold false 10000 (putB [] [itA] [] itA).1 0 w g w.heap.size own4 b (putB [] [itA] [] itA).2.1 (putB [] [itA] [] itA).2.2 Fo4 W5)) := by
      have := put_open (R := 10000) (it := itA) HO5.out (by decide) (by decide) (by decide) (fun x hx => (by cases hx)) (by decide) (fun h => by rw [may_AA] at h; cases h) b5 (Bytes.nil _)
      rw [may_AA] at this
      exact this
    have HW5 := Lib.hid hW5
    clear hb5 b5 hW5 HO4
    go_wp2_with fail
    have e5 : allocs w4 [.cells #[.int .u8 97] 5 (1, 2)] = w4.alloc (.cells #[.int .u8 97] 5 (1, 2)) := rfl
    rw [← e5, ← HW5.out]
    clear e5 HW5
    refine HP5.out.mono ?_
    rintro e6 w6 (⟨_, rfl, hb6⟩ | ⟨h, _⟩)
    · have hpl := putNd_length (lfOf [itA])
      have HD6 := Lib.hid (done_open (R := 10000) (HO5.out.stay hb6) (by decide) ⟨by rw [recOf_length]; omega, by rw [recOf_length]; omega⟩ done_A (fun x hx => (by cases hx)) (by decide) (by decide) (by decide))
      clear hb6 hpl HO5 HP5
      go_wp2_with fail
      refine HD6.out.mono ?_
      rintro e7 w7 (⟨rfl, own7, lf7, _, _, hf7, hov7⟩ | ⟨h0, _⟩)
      · obtain ⟨W8, hW8⟩ : ∃ W8, W8 = w7.alloc (.cells #[.int .i64 256, .int .u64 1] 39) := ⟨_, rfl⟩
        have hb8 : Below w7.heap.size w7 W8 := by rw [hW8]; exact (Below.refl _ _).alloc (Nat.le_refl _) _
        have hn8 : W8.heap[w7.heap.size]? = some (.cells #[.int .i64 256, .int .u64 1] 39 (0, 0)) := by rw [hW8]; exact heap_alloc_new w7 _
        have hov8 : Over b 0 W8 := (hb8.block _ (Array.getElem?_eq_some_iff.1 hov7).1).trans hov7
        have HD8 := Lib.hid (done_shut hov8 (by decide))
        have hbw : Below w.heap.size w w7 := by obtain ⟨o, os, h1, _⟩ := hf7; exact h1.below
        have HB8 : Hid (Below w.heap.size w W8) := hbw.trans (hb8.mono hbw.size)
        have HN8 := Lib.hid hn8; have HW8 := Lib.hid hW8
        clear hb8 hn8 hov8 hbw hf7 hov7 hW8 HD6
        go_wp2_with fail
        rw [← HW8.out]
        refine HD8.out.mono ?_
        rintro e9 w9 ⟨rfl, hb9⟩
        rw [show orOne 0 = 1 from rfl]
        have h9 : w9.heap[w7.heap.size]? = some (.cells #[.int .i64 256, .int .u64 1] 39 (0, 0)) := (hb9.block _ (Array.getElem?_eq_some_iff.1 HN8.out).1).trans HN8.out
        have HB9 := Lib.hid (HB8.out.trans (hb9.mono HB8.out.size))
        have a9 : w9.cell? ⟨w7.heap.size, 0, none⟩ = some (.int .i64 256) := cellsT h9 0
        have a9' : w9.cell? ⟨w7.heap.size, 1, none⟩ = some (.int .u64 1) := cellsT h9 1
        have hl9 := (Array.getElem?_eq_some_iff.1 h9).1
        clear hb9 HD8 HN8 HW8 HB8 h9
        go_wp2_with fail
        go_ret
        exact ⟨rfl, HB9.out.alloc HB9.out.size _⟩
      · exact absurd rfl h0
    · cases h
  · exact absurd rfl h0
end Go.Proofs.Ytajfcnaifegonaa.Sl.Nd
