/- Rows of items in a program: what is below is kept. -/
import Derived.Test.YtnbnnonjbjbbkaaLfB
namespace Go.By
open Go Go.RowKit
theorem below_same {w W : World} (h1 : W.heap = w.heap) (h2 : W.os = w.os) (h3 : W.tape = w.tape) (h4 : W.output = w.output) : Below w.heap.size w W := ⟨h2, h3, h4, by rw [h1]; exact Nat.le_refl _, fun k _ => by rw [h1]⟩
end Go.By
namespace Go.Proofs.Ytnbnnonjbjbbkaa
open Go Go.RowKit Go.By

/-- What a call leaves that told a truth: these cells, and all that was. -/
def Told3 (w : World) (x : Bool) (p1 p2 p3 p4 : Addr) (v1 v2 v3 v4 : Value) (e : Ending) (w' : World) : Prop := e = .returned (.bool x) ∧ w'.cell? p1 = some v1 ∧ w'.cell? p2 = some v2 ∧ w'.cell? p3 = some v3 ∧ w'.cell? p4 = some v4 ∧ Below w.heap.size w w'
def BelRel (w0 w : World) (r : Nat) (lv kv bv : Value) (o : Bool) (left made : List NIt) (k : List Nat) (i : Value) (W : World) : Prop :=
  ∃ n : Nat, n ≤ left.length ∧ i = .int .i64 n ∧ (∀ j (h : j < left.length), j < n → isAb k left[j] = true) ∧ Made w0 r lv made W ∧ W.heap[w.heap.size]? = some (.cells #[kv, bv, .bool o] 29 (0, 0)) ∧ KeptT r w W

set_option maxRecDepth 100000 in
set_option maxHeartbeats 1000000 in
theorem keepBelow_any (w0 : World) (r : Nat) (x : List NIt × List NIt) (c : NCh) (a b : Value) (w : World) (h : Rw w0 r x w) (hr : w0.heap.size ≤ r) (ha : Bytes w0 a c.k) (hb : Bytes w0 b c.v) (hs : AllShort x.1) (hm : x.2.length + x.1.length ≤ 1000000) :
    Calls Try.prog 12 #[.pointer (some ⟨r, 0, none⟩), .agg #[a, b, .bool c.out]] w (RwIs w0 r (step1 c x) w) := by
  obtain ⟨left, made⟩ := x
  obtain ⟨pl, cl, h1, h2⟩ := h
  dsimp only at h1 h2 hs hm
  obtain ⟨qa, ca, rfl, -⟩ := ha.any
  obtain ⟨qb, cb, rfl, -⟩ := hb.any
  have hKeep : Hid (∀ n W, n = front c.k left → Made w0 r (.slice pl left.length cl) made W → Calls Try.prog 15 #[.pointer (some ⟨r, 0, none⟩), .int .i64 n] W (RwIs w0 r (step1 c (left, made)) W)) := fun n W hn hW => by
    subst hn
    exact keep_any w0 r (left, made) (front c.k left) W ⟨pl, cl, h1, hW⟩ hr (front_le _ _) hs hm
  have hAb : Hid (∀ n (hn : n < left.length) (lb lo : Nat) (kv iv : Value) (W0 W : World), pl = some ⟨lb, lo, none⟩ → Made w0 r (.slice pl left.length cl) made W0 → W0.heap[w.heap.size]? = some (.cells #[.slice qa c.k.length ca, .slice qb c.v.length cb, .bool c.out] 29 (0, 0)) → W.heap = W0.heap → W.os = W0.os → W.tape = W0.tape → W.output = W0.output → Bytes w0 kv left[n].k → Bytes w0 iv left[n].v →
      CellsAt W0 lb (lo + n * 2) [kv, iv] →
      Calls Try.prog 17 #[.slice qa c.k.length ca, .agg #[kv, iv]] W (Told3 W0 (isAb c.k left[n]) ⟨w.heap.size, 0, none⟩ ⟨r, 0, none⟩ ⟨lb, lo + n * 2, none⟩ ⟨lb, lo + n * 2 + 1, none⟩ (.slice qa c.k.length ca) (.slice pl left.length cl) kv iv)) := fun n hn lb lo kv iv W0 W hpl hM hbx e1 e2 e3 e4 hk hv hcs => by
    have hbl := below_same e1 e2 e3 e4
    obtain ⟨mv, g1, _, g3⟩ := hM
    have hb0 := g3.trans (hbl.mono g3.size)
    refine (isAbove_any _ _ _ c.k left[n] W (ha.below hb0) (hk.below hb0) (hv.below hb0)).mono ?_
    rintro e w' ⟨rfl, rfl⟩
    have hb1 : Below W0.heap.size W0 (W.alloc (.cells #[kv, iv] 36)) := hbl.alloc (by rw [e1]; exact Nat.le_refl _) _
    have hcs' := (hcs.below hb1).two
    exact ⟨rfl, (cells_of ((hb1.block _ (Array.getElem?_eq_some_iff.1 hbx).1).trans hbx) 0), (cells_of (g1.below hb1) 0), hcs'.1, hcs'.2, hb1⟩
  have hAT : Hid (∀ n (hn : n < left.length), ∃ lb lo kv iv, pl = some ⟨lb, lo, none⟩ ∧ Bytes w0 kv left[n].k ∧ Bytes w0 iv left[n].v ∧ CellsAt w0 lb (lo + n * 2) [kv, iv]) := fun n hn => by
    obtain ⟨lb, lo, cs, e1, e2, kv, iv, rfl, e3, e4⟩ := h1.at_ n hn
    exact ⟨lb, lo, kv, iv, e1, e3, e4, e2⟩
  have hbx : Below w.heap.size w (w.alloc (.cells #[.slice qa c.k.length ca, .slice qb c.v.length cb, .bool c.out] 29)) := (Below.refl _ _).alloc (Nat.le_refl _) _
  have H0 : Hid (BelRel w0 w r (.slice pl left.length cl) (.slice qa c.k.length ca) (.slice qb c.v.length cb) c.out left made c.k (.int .i64 (0 : Nat)) (w.alloc (.cells #[.slice qa c.k.length ca, .slice qb c.v.length cb, .bool c.out] 29))) :=
    ⟨0, Nat.zero_le _, rfl, fun _ _ h => absurd h (Nat.not_lt_zero _), h2.more hbx, heap_alloc_new w _, KeptT.of_below hbx⟩
  have hL : (left.length : Int) ≤ 1000000 := by omega
  have HFR : Hid (∀ n, n ≤ left.length → (∀ j (h : j < left.length), j < n → isAb c.k left[j] = true) → (∀ h : n < left.length, isAb c.k left[n] = false) → n = front c.k left) := fun n h1 h2 h3 => (front_of h1 h2 h3).symm
  clear h1 h2 hr ha hb hs hm hbx
  obtain ⟨NL, hNL⟩ : ∃ NL, NL = left.length := ⟨_, rfl⟩
  have HNL := Lib.hid hNL
  rw [← hNL] at hL
  clear hNL
  generalize hck : c.k.length = l1 at *
  generalize hcv : c.v.length = l2 at *
  generalize hco : c.out = o at *
  clear hck hcv hco
  go_enter Try.func12, Try.ntmps12
  go_wp2
  go_loopw [4] (fun i W => BelRel w0 w r (.slice pl left.length cl) (.slice qa l1 ca) (.slice qb l2 cb) o left made c.k i W) (fun i _ => NL - (intOf i).toNat)
  case atStart => exact H0.out
  case round =>
    clear H0
    obtain ⟨n, hn, rfl, hall, hmd, hbox, hkt⟩ := hrel
    have hc0 : wr.cell? ⟨r, 0, none⟩ = some (.slice pl NL cl) := by
      obtain ⟨mv, g1, _⟩ := hmd
      rw [← HNL.out] at g1
      exact cells_of g1 0
    have hk0 := cells_of hbox 0
    simp only [List.getElem?_toArray, List.getElem?_cons_zero] at hk0
    by_cases hlt : n < NL
    · have hkl : n < left.length := by rw [← HNL.out]; exact hlt
      obtain ⟨lb, lo, kv, iv, hp, hkv, hiv, hcs⟩ := hAT.out n hkl
      have hb0 : Below w0.heap.size w0 wr := by obtain ⟨_, _, _, g⟩ := hmd; exact g
      have hcs' := hcs.below hb0
      obtain ⟨e0, e1⟩ := hcs'.two
      have HC := Lib.hid (hAb.out n hkl lb lo kv iv wr)
      have HC2 : Hid (∀ W : World, W.heap = wr.heap → W.os = wr.os → W.tape = wr.tape → W.output = wr.output → Calls Try.prog 17 #[.slice qa l1 ca, .agg #[kv, iv]] W (Told3 wr (isAb c.k left[n]) ⟨w.heap.size, 0, none⟩ ⟨r, 0, none⟩ ⟨lb, lo + n * 2, none⟩ ⟨lb, lo + n * 2 + 1, none⟩ (.slice qa l1 ca) (.slice pl NL cl) kv iv)) := fun W q1 q2 q3 q4 => by
        have := HC.out W hp hmd hbox q1 q2 q3 q4 hkv hiv hcs'
        rwa [← HNL.out] at this
      have HNX : Hid (isAb c.k left[n] = true → ∀ W, Below wr.heap.size wr W → BelRel w0 w r (.slice pl left.length cl) (.slice qa l1 ca) (.slice qb l2 cb) o left made c.k (.int .i64 (n + 1 : Nat)) W) := fun ht W hW =>
        ⟨n + 1, hkl, rfl, fun j hj hjn => by
          by_cases hjj : j < n
          · exact hall j hj hjj
          · obtain rfl : j = n := by omega
            exact ht, hmd.more hW, (hW.block _ (Array.getElem?_eq_some_iff.1 hbox).1).trans hbox, hkt.trans (KeptT.of_below hW)⟩
      have HKP : Hid (isAb c.k left[n] = false → ∀ W, Below wr.heap.size wr W → Calls Try.prog 15 #[.pointer (some ⟨r, 0, none⟩), .int .i64 n] W (RwIs w0 r (step1 c (left, made)) w)) := fun hf W hW => (hKeep.out n W (HFR.out n hn hall (fun _ => hf)) (hmd.more hW)).mono fun _ _ ⟨g1, g2, g3⟩ => ⟨g1, g2, (hkt.trans (KeptT.of_below hW)).trans g3⟩
      obtain ⟨qk, ck, rfl, -⟩ := hkv.any
      obtain ⟨qi, ci, rfl, -⟩ := hiv.any
      have HLT := Lib.hid hlt
      have hd : decide ((n : Int) < NL) = true := by simp; exact hlt
      subst hp
      generalize isAb c.k left[n] = t at *
      generalize left[n].k.length = l3 at *
      generalize left[n].v.length = l4 at *
      clear hcs hcs' hkv hiv hmd hbox hkt hall hkl hb0 HC hAb hAT hKeep HFR hn
      go_wp2
      go_region_held3 (fun w' => w'.cell? ⟨w.heap.size, 0, none⟩ = some (.slice qa l1 ca) ∧ w'.cell? ⟨r, 0, none⟩ = some (.slice (some ⟨lb, lo, none⟩) NL cl) ∧ w'.cell? ⟨lb, lo + n * 2, none⟩ = some (.slice qk l3 ck) ∧ w'.cell? ⟨lb, lo + n * 2 + 1, none⟩ = some (.slice qi l4 ci)) (go_keep)
        (first | (go_at_call 17; refine (HC2.out _ (by rfl) (by rfl) (by rfl) (by rfl)).mono ?_; rintro e w2 ⟨rfl, d0, d1, d2, d3, hb2⟩))
      have HB2 := Lib.hid hb2
      clear d0 d1 d2 d3 hb2 HC2 e0 e1 hc0 hk0
      cases t with
      | true =>
        have HR := Lib.hid (HNX.out rfl w2 HB2.out)
        clear HNX HKP
        go_wp2
        go_roundw
        case rel => exact HR.out
        case measure => simp [intOf]; have := HLT.out; omega
      | false =>
        have HK := Lib.hid (HKP.out rfl w2 HB2.out)
        clear HNX HKP
        go_wp2_with fail
        refine HK.out.mono ?_
        rintro e w3 ⟨rfl, hf⟩
        have HF := Lib.hid hf
        clear hf
        go_wp2
        go_returns
        exact ⟨rfl, HF.out⟩
    · obtain rfl : n = NL := by have := HNL.out; omega
      have HKP : Hid (∀ W, Below wr.heap.size wr W → Calls Try.prog 15 #[.pointer (some ⟨r, 0, none⟩), .int .i64 n] W (RwIs w0 r (step1 c (left, made)) w)) := fun W hW => (hKeep.out n W (HFR.out n hn hall (fun h => absurd h (by rw [← HNL.out]; omega))) (hmd.more hW)).mono fun _ _ ⟨g1, g2, g3⟩ => ⟨g1, g2, (hkt.trans (KeptT.of_below hW)).trans g3⟩
      have hd : decide ((n : Int) < (n : Int)) = false := by simp
      clear hmd hbox hkt hall hAb hAT hKeep HFR hn
      go_wp2
      go_quiet (fail)
      have HK := Lib.hid (HKP.out _ (below_drewN wr nq))
      clear HKP
      go_wp2_with fail
      refine HK.out.mono ?_
      rintro e w3 ⟨rfl, hf⟩
      have HF := Lib.hid hf
      clear hf
      go_wp2
      go_returns
      exact ⟨rfl, HF.out⟩

set_option maxRecDepth 100000 in
set_option maxHeartbeats 1000000 in
theorem passOver_any (w0 : World) (r : Nat) (x : List NIt × List NIt) (c : NCh) (a b : Value) (w : World) (h : Rw w0 r x w) (hr : w0.heap.size ≤ r) (ha : Bytes w0 a c.k) (hb : Bytes w0 b c.v) (hs : x.1.length ≤ 1000000) :
    Calls Try.prog 13 #[.pointer (some ⟨r, 0, none⟩), .agg #[a, b, .bool c.out]] w (RwIs w0 r (step2 c x) w) := by
  obtain ⟨left, made⟩ := x
  obtain ⟨pl, cl, h1, h2⟩ := h
  dsimp only at h1 h2 hs
  obtain ⟨qa, ca, rfl, -⟩ := ha.any
  obtain ⟨qb, cb, rfl, -⟩ := hb.any
  obtain ⟨W, hW⟩ : ∃ W, W = w.alloc (.cells #[.slice qa c.k.length ca, .slice qb c.v.length cb, .bool c.out] 29) := ⟨_, rfl⟩
  have hbx : Below w.heap.size w W := by rw [hW]; exact (Below.refl _ _).alloc (Nat.le_refl _) _
  have hbox : W.heap[w.heap.size]? = some (.cells #[.slice qa c.k.length ca, .slice qb c.v.length cb, .bool c.out] 29 (0, 0)) := by rw [hW]; exact heap_alloc_new w _
  have hmd := h2.more hbx
  have hc0 : W.cell? ⟨r, 0, none⟩ = some (.slice pl left.length cl) := by
    obtain ⟨mv, g1, _⟩ := hmd
    exact cells_of g1 0
  have hk0 := cells_of hbox 0
  simp only [List.getElem?_toArray, List.getElem?_cons_zero] at hk0
  have HW := Lib.hid hW
  cases left with
  | nil =>
    have HF : Hid (∀ W', Below W.heap.size W W' → RwIs w0 r (step2 c ([], made)) w (.returned (.tuple #[])) W') := fun W' hb => ⟨rfl, ⟨pl, cl, h1, hmd.more hb⟩, (KeptT.of_below hbx).trans (KeptT.of_below hb)⟩
    clear h1 h2 hr ha hb hs hbx hbox hmd hW
    simp only [List.length_nil] at hc0
    generalize c.k.length = l1 at *
    generalize c.v.length = l2 at *
    generalize c.out = o at *
    have hd : decide ((0 : Int) < 0) = false := by decide
    go_enter Try.func13, Try.ntmps13
    go_wp2
    rw [← HW.out]
    go_quiet (fail)
    have HX := Lib.hid (HF.out _ (below_drewN W nq))
    clear HF
    go_wp2
    go_returns
    exact HX.out
  | cons i left =>
    obtain ⟨lb, lo, cs, rfl, hcs, kv, iv, rfl, hkv, hiv⟩ := h1.at_ 0 (by simp)
    simp only [Nat.zero_mul, Nat.add_zero, List.getElem_cons_zero] at hcs hkv hiv
    have hb0 : Below w0.heap.size w0 W := by obtain ⟨_, _, _, g⟩ := hmd; exact g
    have hcs' := hcs.below hb0
    obtain ⟨e0, e1⟩ := hcs'.two
    obtain ⟨q, cq, hrun, hq⟩ := h1.from_ itT 1 1 rfl (by simp)
    have HC : Hid (∀ W1 : World, W1.heap = W.heap → W1.os = W.os → W1.tape = W.tape → W1.output = W.output → Calls Try.prog 18 #[.slice qa c.k.length ca, .agg #[kv, iv]] W1 (Told3 W (decide (c.k = i.k)) ⟨w.heap.size, 0, none⟩ ⟨r, 0, none⟩ ⟨lb, lo, none⟩ ⟨lb, lo + 1, none⟩ (.slice qa c.k.length ca) (.slice (some ⟨lb, lo, none⟩) (i :: left).length cl) kv iv)) := fun W1 q1 q2 q3 q4 => by
      have hbl := below_same q1 q2 q3 q4
      obtain ⟨mv, g1, _, g3⟩ := hmd
      have hb0 := g3.trans (hbl.mono g3.size)
      refine (isOf_any _ _ _ c.k i W1 (ha.below hb0) (hkv.below hb0) (hiv.below hb0)).mono ?_
      rintro e w' ⟨rfl, rfl⟩
      have hb1 : Below W.heap.size W (W1.alloc (.cells #[kv, iv] 36)) := hbl.alloc (by rw [q1]; exact Nat.le_refl _) _
      have hcs2 := (hcs'.below hb1).two
      exact ⟨rfl, (cells_of ((hb1.block _ (Array.getElem?_eq_some_iff.1 hbox).1).trans hbox) 0), (cells_of (g1.below hb1) 0), hcs2.1, hcs2.2, hb1⟩
    have HT : Hid (decide (c.k = i.k) = true → ∀ W', Below W.heap.size W W' → W'.cell? ⟨r, 0, none⟩ = some (.slice (some ⟨lb, lo, none⟩) (i :: left).length cl) ∧ W'.frozen? ⟨r, 0, none⟩ = false ∧ RwIs w0 r (step2 c (i :: left, made)) w (.returned (.tuple #[])) (W'.setCell ⟨r, 0, none⟩ (.slice q left.length cq))) := fun ht W' hb => by
      have hm' := hmd.more hb
      have e : step2 c (i :: left, made) = (left, made) := by
        show (passed c.k (i :: left), made) = _
        rw [passed, if_pos (of_decide_eq_true ht)]
      rw [e]
      refine ⟨?_, ?_, rfl, ⟨q, cq, hq, hm'.leave hr _⟩, ((KeptT.of_below hbx).trans (KeptT.of_below hb)).trans (KeptT.set r 0 W' _)⟩
      · obtain ⟨mv, g1, _⟩ := hm'
        exact cells_of g1 0
      · obtain ⟨mv, g1, _⟩ := hm'
        exact free_of g1 0
    have HF : Hid (decide (c.k = i.k) = false → ∀ W', Below W.heap.size W W' → RwIs w0 r (step2 c (i :: left, made)) w (.returned (.tuple #[])) W') := fun ht W' hb => by
      have e : step2 c (i :: left, made) = (i :: left, made) := by
        show (passed c.k (i :: left), made) = _
        rw [passed, if_neg (of_decide_eq_false ht)]
      rw [e]
      exact ⟨rfl, ⟨_, cl, h1, hmd.more hb⟩, (KeptT.of_below hbx).trans (KeptT.of_below hb)⟩
    obtain ⟨qk, ck, rfl, -⟩ := hkv.any
    obtain ⟨qi, ci, rfl, -⟩ := hiv.any
    have hL : ((i :: left).length : Int) ≤ 1000000 := by omega
    have hd : decide (0 < (i :: left).length) = true := by simp
    have hd0 : (0 : Int) < ((i :: left).length : Nat) := by rw [List.length_cons]; omega
    have hd1 : 0 < (i :: left).length := by simp
    have hrun' : ∀ w0 : World, (Instr.slice 33 (.slice (some ⟨lb, lo, none⟩) (i :: left).length cl) (some (.int .i64 1)) none none).run Try.prog w0 = .ok (.slice q left.length cq) w0 := hrun
    clear h1 h2 hr ha hb hs hbx hbox hmd hW hcs hkv hiv hb0 hcs' hq hrun
    generalize decide (c.k = i.k) = t at *
    generalize (i :: left).length = NL at *
    generalize c.k.length = l1 at *
    generalize c.v.length = l2 at *
    generalize c.out = o at *
    generalize i.k.length = l3 at *
    generalize i.v.length = l4 at *
    go_enter Try.func13, Try.ntmps13
    go_wp2
    rw [← HW.out]
    go_region_held3 (fun w' => w'.cell? ⟨w.heap.size, 0, none⟩ = some (.slice qa l1 ca) ∧ w'.cell? ⟨r, 0, none⟩ = some (.slice (some ⟨lb, lo, none⟩) NL cl) ∧ w'.cell? ⟨lb, lo, none⟩ = some (.slice qk l3 ck) ∧ w'.cell? ⟨lb, lo + 1, none⟩ = some (.slice qi l4 ci)) (go_keep)
      (first | (go_at_call 18; refine (HC.out _ (by rfl) (by rfl) (by rfl) (by rfl)).mono ?_; rintro e w2 ⟨rfl, d0, d1, d2, d3, hb2⟩))
    have HB2 := Lib.hid hb2
    clear d0 d1 d2 d3 hb2 HC e0 e1 hc0 hk0 HW
    cases t with
    | true =>
      obtain ⟨hc1, hf1, hx⟩ := HT.out rfl w2 HB2.out
      have HX := Lib.hid hx
      clear HT HF hx
      go_wp2
      go_returns
      exact HX.out
    | false =>
      have HX := Lib.hid (HF.out rfl w2 HB2.out)
      clear HT HF hrun'
      go_wp2
      go_returns
      exact HX.out

set_option maxRecDepth 100000 in
theorem put_any (w0 : World) (r : Nat) (x : List NIt × List NIt) (c : NCh) (a b : Value) (w : World) (h : Rw w0 r x w) (hr : w0.heap.size ≤ r) (ha : Bytes w0 a c.k) (hb : Bytes w0 b c.v) (hs : ShortIt ⟨c.k, c.v⟩) (hm : x.2.length ≤ 1000000) :
    Calls Try.prog 14 #[.pointer (some ⟨r, 0, none⟩), .agg #[a, b, .bool c.out]] w (RwIs w0 r (step3 c x) w) := by
  obtain ⟨left, made⟩ := x
  obtain ⟨pl, cl, h1, h2⟩ := h
  dsimp only at h1 h2 hm
  have hbb := (Below.refl w.heap.size w).alloc (Nat.le_refl _) (.cells #[a, b, .bool c.out] 29)
  have hbx := h2.more hbb
  have HA := Lib.hid (add_any w0 r _ made ⟨c.k, c.v⟩ a b _ hbx hr ha hb hs hm)
  have HT : Hid (c.out = true → RwIs w0 r (step3 c (left, made)) w (.returned (.tuple #[])) (w.alloc (.cells #[a, b, .bool c.out] 29))) := fun ho => by
    have e : step3 c (left, made) = (left, made) := by
      unfold step3 putsCh
      rw [if_pos ho, List.append_nil]
    rw [e]
    exact ⟨rfl, ⟨pl, cl, h1, hbx⟩, KeptT.of_below hbb⟩
  have HF : Hid (c.out = false → ∀ e W, MadeIs w0 r (.slice pl left.length cl) (made ++ [⟨c.k, c.v⟩]) (w.alloc (.cells #[a, b, .bool c.out] 29)) e W → RwIs w0 r (step3 c (left, made)) w e W) := fun ho e W ⟨h3, h4, h5⟩ => by
    have e : step3 c (left, made) = (left, made ++ [⟨c.k, c.v⟩]) := by
      unfold step3 putsCh
      rw [ho]
      rfl
    rw [e]
    exact ⟨h3, ⟨pl, cl, h1, h4⟩, (KeptT.of_below hbb).trans h5⟩
  obtain ⟨qa, ca, rfl, -⟩ := ha.any
  obtain ⟨qb, cb, rfl, -⟩ := hb.any
  clear h1 h2 hr ha hb hs hm hbx hbb
  generalize c.out = o at *
  generalize c.k.length = l1 at *
  generalize c.v.length = l2 at *
  cases o with
  | true =>
    go_enter Try.func14, Try.ntmps14
    go_wp2
    go_returns
    exact HT.out (by trivial)
  | false =>
    go_enter Try.func14, Try.ntmps14
    go_wp2_with fail
    refine HA.out.mono ?_
    rintro e w3 ⟨rfl, hf⟩
    have HX := Lib.hid (HF.out (by trivial) _ w3 ⟨rfl, hf⟩)
    clear hf HF HA HT
    go_wp2
    go_returns
    exact HX.out
end Go.Proofs.Ytnbnnonjbjbbkaa

