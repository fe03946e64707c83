/- Roots in a program: what the document puts. -/
import Derived.Test.YtkhpblclpcgjnaaRtA
import Derived.Test.YtkhpblclpcgjnaaRefN
import Derived.Test.YtkhpblclpcgjnaaGenZ
import Derived.Deep.RegionLaw
namespace Go.By
open Go Go.RowKit
theorem rtCells_off {r : Rt} {k : Nat} (h : k < r.ts.length) : (rtCells r)[2 + k * 2]? = some (.int .i64 r.ts[k].off) ∧ (rtCells r)[2 + k * 2 + 1]? = some (.int .u64 (r.ts[k].ct : Nat)) := by
  have flat : ∀ {xs : List NKd} {j i : Nat} (h : j < xs.length), i < 2 → (xs.flatMap rfCells)[j * 2 + i]? = (rfCells xs[j])[i]? := by
    intro xs
    induction xs with
    | nil => intro j i h; exact absurd h (Nat.not_lt_zero _)
    | cons x xs ih =>
      intro j i h hi
      rw [List.flatMap_cons]
      cases j with
      | zero =>
        rw [Nat.zero_mul, Nat.zero_add, List.getElem?_append_left (by simp [rfCells]; exact hi)]
        rfl
      | succ j =>
        rw [List.getElem?_append_right (by simp [rfCells]; omega), show (rfCells x).length = 2 from rfl, show (j + 1) * 2 + i - 2 = j * 2 + i by omega]
        exact ih (by simpa using h) hi
  unfold rtCells
  constructor
  · rw [show 2 + k * 2 = k * 2 + 1 + 1 by omega, List.getElem?_cons_succ, List.getElem?_cons_succ]
    exact flat (i := 0) h (by decide)
  · rw [show 2 + k * 2 + 1 = (k * 2 + 1) + 1 + 1 by omega, List.getElem?_cons_succ, List.getElem?_cons_succ]
    exact flat (i := 1) h (by decide)
theorem refsOf_next {ts : List NKd} {k : Nat} (h : k < ts.length) : refsOf (ts.take (k + 1)) = refsOf (ts.take k) ++ highOf ts[k].off.toNat 8 ++ highOf ts[k].ct 8 := by
  unfold refsOf
  rw [List.take_succ_eq_append_getElem h, List.flatMap_append]
  simp [refOf]
theorem refs_length {ts : List NKd} {k : Nat} : (refsOf (ts.take k)).length ≤ 16 * ts.length := by
  rw [refsOf_length, List.length_take]
  omega
theorem mayRt_no {r : Rt} {k : Nat} (h : k < r.ts.length) (hm : mayRf r.ts[k] = false) : putRt r = [] := by
  unfold putRt
  rw [if_neg]
  intro h2
  have := ((mayRt_iff r).1 h2).2 _ (List.getElem_mem h)
  rw [hm] at this
  cases this
end Go.By
namespace Go.Proofs.Ytkhpblclpcgjnaa
open Go Go.RowKit Go.By

/-- A row of bytes is told, of one's own. -/
def Rows (w : World) (m : List Nat) (e : Ending) (w' : World) : Prop :=
  ∃ v', e = .returned v' ∧ w'.ownsRow w.heap.size 5 1 v' m.length (cellsOf m) ∧ Below w.heap.size w w'
/-- How far a root has been laid. -/
def RtRel (W : World) (r : Rt) (x i : Value) (wr : World) : Prop :=
  ∃ k : Nat, k ≤ 5 ∧ i = .int .i64 k ∧ (∀ j (h : j < r.ts.length), j < k → mayRf r.ts[j] = true) ∧ wr.ownsRow W.heap.size 5 1 x (highOf r.nx.toNat 8 ++ refsOf (r.ts.take k)).length (cellsOf (highOf r.nx.toNat 8 ++ refsOf (r.ts.take k))) ∧ Below W.heap.size W wr

/-- Where a row stands that is being laid behind, with two rows that wait; two cells that are looked at. -/
structure Ph (W : World) (t : Nat) (x0 x1 : Value) (cur : World) (v : Value) (M : List Nat) (r1 : Value) (l1 : List Nat) (r2 : Value) (l2 : List Nat) : Prop where
  below : Below W.heap.size W cur
  c0 : cur.cell? ⟨t, 0, none⟩ = some x0
  c1 : cur.cell? ⟨t, 1, none⟩ = some x1
  far : v.ownBlock ≠ some t
  own : cur.ownsRow W.heap.size 5 1 v M.length (cellsOf M)
  y1 : Bytes cur r1 l1
  y2 : Bytes cur r2 l2
  s2 : l2 ≠ [] → v.ownBlock ≠ r2.ownBlock
theorem ph_next {W cur w' : World} {t : Nat} {x0 x1 v r1 r2 : Value} {M l1 l2 : List Nat} (h : Ph W t x0 x1 cur v M r1 l1 r2 l2) (hb : Below cur.heap.size cur w') : Ph W t x0 x1 w' v M r1 l1 r2 l2 :=
  ⟨h.below.trans (hb.mono h.below.size), (hb.cell (p := ⟨t, 0, none⟩) (block_lt_of_cell h.c0)).trans h.c0, (hb.cell (p := ⟨t, 1, none⟩) (block_lt_of_cell h.c1)).trans h.c1, h.far, owns_below h.own hb, h.y1.below hb, h.y2.below hb, h.s2⟩
theorem ph_call1 {W cur : World} {t : Nat} {x0 x1 v r1 r2 : Value} {M l1 l2 : List Nat} (q : Nat) (hq : q < 18446744073709551616) (h : Ph W t x0 x1 cur v M r1 l1 r2 l2) :
    Calls Try.prog 19 #[.int .u64 q, .int .i64 8] cur fun e w' => ∃ p c, e = .returned (.slice p 8 c) ∧ Ph W t x0 x1 w' v M (.slice p 8 c) (highOf q 8) r2 l2 := by
  refine (high_any q 8 cur hq (by omega)).mono ?_
  rintro e w' ⟨v', rfl, ho, hb⟩
  obtain ⟨p, c, rfl⟩ := owns_slice ho
  have h2 := ph_next h hb
  exact ⟨p, c, rfl, h2.below, h2.c0, h2.c1, h2.far, h2.own, Bytes.of_owns ho (highOf_small _ _) (by rw [highOf_length]; decide), h2.y2, h2.s2⟩
theorem ph_call2 {W cur : World} {t : Nat} {x0 x1 v r1 r2 : Value} {M l1 l2 : List Nat} (q : Nat) (hq : q < 18446744073709551616) (h : Ph W t x0 x1 cur v M r1 l1 r2 l2) :
    Calls Try.prog 19 #[.int .u64 q, .int .i64 8] cur fun e w' => ∃ p c, e = .returned (.slice p 8 c) ∧ Ph W t x0 x1 w' v M r1 l1 (.slice p 8 c) (highOf q 8) := by
  refine (high_any q 8 cur hq (by omega)).mono ?_
  rintro e w' ⟨v', rfl, ho, hb⟩
  obtain ⟨p, c, rfl⟩ := owns_slice ho
  have h2 := ph_next h hb
  refine ⟨p, c, rfl, h2.below, h2.c0, h2.c1, h2.far, h2.own, h2.y1, Bytes.of_owns ho (highOf_small _ _) (by rw [highOf_length]; decide), fun _ e => ?_⟩
  cases hv : v.ownBlock with
  | none =>
    rw [hv] at e
    rcases ho.2 with ⟨_, h0⟩ | ⟨g, _, _, h1, _⟩
    · omega
    · rw [h1] at e; simp [Value.ownBlock] at e
  | some g =>
    rw [hv] at e
    have h3 := (h.own.lt g hv).2
    have h4 := (ho.lt g e.symm).1
    omega
/-- What waits first is laid behind. -/
theorem ph_append1 {W cur : World} {t : Nat} {x0 x1 v r1 r2 : Value} {M l1 l2 : List Nat} (h : Ph W t x0 x1 cur v M r1 l1 r2 l2) (hl : M.length + l1.length ≤ 1000000) :
    ∃ p' n' c' w', (Builtin.append_ #[28, 28] 28 #[v, r1]).run Try.prog cur = .ok (.slice p' n' c') w' ∧ Ph W t x0 x1 w' (.slice p' n' c') (M ++ l1) (.slice none 0 0) [] r2 l2 := by
  obtain ⟨i, hi, hz, hz1, hz2⟩ := info_parts (byT).info
  have hr : ∃ v' w', (Builtin.append_ #[28, 28] 28 #[v, r1]).run Try.prog cur = .ok v' w' ∧ w'.ownsRow W.heap.size 5 1 v' (M.length + l1.length) (cellsOf M ++ cellsOf l1) ∧ cur.grownBy w' v.ownBlock ∧ (v'.ownBlock = v.ownBlock ∨ v'.ownBlock = some cur.heap.size) := by
    rcases h.y1.out with ⟨rfl, rfl⟩ | ⟨ad, rfl, rfl⟩ | ⟨b, off, cap, rfl, hcap, hc⟩
    · exact ⟨v, cur, run_append_owned_none (P := Try.prog) (w := cur) W.heap.size 28 28 5 i 1 byT.slice hi v _ _ h.own, by simpa [cellsOf] using h.own, World.grownBy.refl _ _, .inl rfl⟩
    · obtain ⟨v', w', r1, r2, r3, _, r5⟩ := run_append_own_at (P := Try.prog) cur W.heap.size 28 28 5 i (.int .u8 0) 1 1 byT.slice hi hz hz1 hz2 rfl (by omega) v _ _ h.own ad 0 0 [] rfl (by simp) (by simp) (by simp at hl; unfold maxLen; omega) (by simp at hl; omega) h.below.size
      exact ⟨v', w', r1, r2, r3, r5⟩
    · obtain ⟨v', w', r1, r2, r3, _, r5⟩ := run_append_own_at (P := Try.prog) cur W.heap.size 28 28 5 i (.int .u8 0) 1 1 byT.slice hi hz hz1 hz2 rfl (by omega) v _ _ h.own ⟨b, off, none⟩ l1.length cap (cellsOf l1) (by rw [cellsOf_length, Nat.mul_one]) (by
        intro j u hu
        obtain ⟨hj, rfl⟩ := cellsOf_at hu
        rw [Addr.add_lit]; exact hc j hj) (cellsOf_one l1) (by unfold maxLen; omega) (by omega) h.below.size
      exact ⟨v', w', r1, r2, r3, r5⟩
  obtain ⟨v', w', hrun, ho, hg, hn⟩ := hr
  have ho' : w'.ownsRow W.heap.size 5 1 v' (M ++ l1).length (cellsOf (M ++ l1)) := by rw [List.length_append, cellsOf_append]; exact ho
  obtain ⟨p', c', rfl⟩ := owns_slice ho'
  have hbl : Below W.heap.size W w' := h.below.grown hg h.below.size (fun j hj => (h.own.lt j hj).1)
  have hct : ∀ i x, cur.cell? ⟨t, i, none⟩ = some x → w'.cell? ⟨t, i, none⟩ = some x := fun i x hx => hg.cell hx (fun e => h.far e.symm)
  have htl : t < cur.heap.size := block_lt_of_cell h.c0
  have hy2 : Bytes w' r2 l2 := by
    refine ⟨?_, h.y2.small, h.y2.short⟩
    rcases h.y2.out with h1 | h1 | ⟨b, o, c, rfl, hc, hcell⟩
    · exact .inl h1
    · exact .inr (.inl h1)
    · refine .inr (.inr ⟨b, o, c, rfl, hc, fun i hi => hg.cell (hcell i hi) (fun e => ?_)⟩)
      exact h.s2 (by intro e0; subst e0; exact absurd hi (Nat.not_lt_zero _)) (by rw [← e]; rfl)
  refine ⟨_, _, _, w', hrun, hbl, hct 0 _ h.c0, hct 1 _ h.c1, fun e => ?_, ho', Bytes.nil _, hy2, fun hl2 e => ?_⟩
  · rcases hn with h1 | h1
    · exact h.far (by rw [← h1]; exact e)
    · rw [h1] at e; have := Option.some.inj e; omega
  · rcases hn with h1 | h1
    · exact h.s2 hl2 (by rw [← h1]; exact e)
    · rcases h.y2.out with ⟨_, h2⟩ | ⟨a, _, h2⟩ | ⟨b, o, c, h2, hc, hcell⟩
      · exact hl2 h2
      · exact hl2 h2
      · have hlt : b < cur.heap.size := block_lt_of_cell (hcell 0 (List.length_pos_iff.2 hl2))
        rw [h1, h2] at e
        have he : cur.heap.size = b := Option.some.inj e
        omega
theorem ph_append2 {W cur : World} {t : Nat} {x0 x1 v r1 r2 : Value} {M l1 l2 : List Nat} (h : Ph W t x0 x1 cur v M r1 l1 r2 l2) (hl : M.length + l2.length ≤ 1000000) :
    ∃ p' n' c' w', (Builtin.append_ #[28, 28] 28 #[v, r2]).run Try.prog cur = .ok (.slice p' n' c') w' ∧ Ph W t x0 x1 w' (.slice p' n' c') (M ++ l2) (.slice none 0 0) [] (.slice none 0 0) [] := by
  obtain ⟨p', n', c', w', h1, h2⟩ := ph_append1 (⟨h.below, h.c0, h.c1, h.far, h.own, h.y2, Bytes.nil _, fun e => absurd rfl e⟩ : Ph W t x0 x1 cur v M r2 l2 (.slice none 0 0) []) hl
  exact ⟨p', n', c', w', h1, h2⟩
/-- append, at a step of a region that draws its order, by its run equation. -/
theorem step_append_run {P : Program} {w : World} {ops : Array Oper} {o : Oper} {a : Act} {K : Act → World → Prop} {Q : Exit → Act → World → Prop} {E : Prop} (hgd : o.guard = none) (s x : Operand) (t t' : TypeId)
    (ho : o.op = .call { callee := .builtin .append, args := #[s, x], argTypes := #[t, t'] }) (v xv : Value) (hs : a.eval s = v) (hx : a.eval x = xv) (v' : Value) (w' : World) (hrun : (Builtin.append_ #[t, t'] o.type #[v, xv]).run P w = .ok v' w')
    (h : K (a.put o.dst v') w') :
    if Region.wanted o (yielded ops a.tmps) = true then Oper.wp P o a w K Q else E := by
  have hw : Region.wanted o (yielded ops a.tmps) = true := by simp [Region.wanted, hgd]
  rw [if_pos hw]
  unfold Oper.wp execOp
  simp only [ho, resolve, invoke, builtin, Sem.run_bind, Sem.run_pure, Result.andThen_ok, List.map_toArray, List.map_cons, List.map_nil, hs, hx, hrun]
  exact h

set_option maxRecDepth 100000 in
set_option maxHeartbeats 1000000 in
theorem refPutRoot_any (w : World) (r : Rt) (hr : RtCome r) :
    Calls Try.prog 10 #[.agg (rtCells r).toArray] w (Rows w (putRt r)) := by
  have hfive := hr.five
  have hnx := hr.nx
  obtain ⟨W, hW⟩ : ∃ W, W = w.alloc (.cells (rtCells r).toArray 27) := ⟨_, rfl⟩
  have hb : Below w.heap.size w W := by rw [hW]; exact (Below.refl _ _).alloc (Nat.le_refl _) _
  have hcW : W.heap[w.heap.size]? = some (.cells (rtCells r).toArray 27 (0, 0)) := by rw [hW]; exact heap_alloc_new w _
  have HCW := Lib.hid hcW; have HB := Lib.hid hb; have HW := Lib.hid hW; have HR := Lib.hid hr
  have hl : w.heap.size < W.heap.size := (Array.getElem?_eq_some_iff.1 hcW).1
  have HL := Lib.hid hl
  have e1 : (rtCells r).toArray[1]? = some (.int .i64 r.nx) := by simp [rtCells]
  have HF := Lib.hid hfive
  have HCS : Hid (∀ k (h : k < r.ts.length), (rtCells r).toArray[2 + k * 2]? = some (.int .i64 r.ts[k].off) ∧ (rtCells r).toArray[2 + k * 2 + 1]? = some (.int .u64 (r.ts[k].ct : Nat))) := fun k h => by
    obtain ⟨h1, h2⟩ := rtCells_off h
    exact ⟨by rw [List.getElem?_toArray]; exact h1, by rw [List.getElem?_toArray]; exact h2⟩
  clear hb hcW hr hfive hl
  generalize hcells : (rtCells r).toArray = CS at *
  by_cases h0 : 0 ≤ r.nx
  · obtain ⟨a, ha⟩ : ∃ a : Nat, r.nx = a := ⟨r.nx.toNat, by omega⟩
    have HA := Lib.hid ha
    rw [ha] at e1 hnx
    have hwn : IntKind.u64.wrap (a : Int) = a := by rw [IntKind.wrap_u64]; omega
    have ha9 : (a : Int) ≤ 9223372036854775807 := by omega
    have HHA : Hid (∀ W', W' = W → Calls Try.prog 19 #[.int .u64 (a : Nat), .int .i64 8] W' fun e w' => ∃ p c, e = .returned (.slice p 8 c) ∧ w'.ownsRow W.heap.size 5 1 (.slice p 8 c) 8 (cellsOf (highOf a 8)) ∧ Below W.heap.size W w') := fun W' e => by
      subst e
      refine (high_any a 8 W' (by omega) (by omega)).mono ?_
      rintro e w' ⟨v', rfl, ho, hb⟩
      obtain ⟨p, c, rfl⟩ := owns_slice ho
      exact ⟨p, c, rfl, ho, hb⟩
    clear ha hnx h0
    go_enter Try.func10, Try.ntmps10
    go_wp2_with fail
    refine (HHA.out _ HW.out.symm).mono ?_
    rintro e w1 ⟨p1, q1, rfl, ho1, hb1⟩
    have HREL : Hid (RtRel W r (.slice p1 8 q1) (.int .i64 (0 : Nat)) w1) := ⟨0, by omega, rfl, fun j _ hj => absurd hj (by omega), by rw [HA.out, Int.toNat_natCast]; simpa [refsOf, highOf_length] using ho1, hb1⟩
    clear ho1 hb1 HHA
    go_wp2
    go_loopw [3, 4] (fun x i wr => RtRel W r x i wr) (fun _ i _ => 5 - (intOf i).toNat)
    case atStart => exact HREL.out
    case round =>
      clear HREL
      obtain ⟨k, hk, rfl, hms, hown, hbl⟩ := hrel
      obtain ⟨px, cx, rfl⟩ := owns_slice hown
      by_cases hlt : k < 5
      · have hkt : k < r.ts.length := by rw [HF.out]; exact hlt
        obtain ⟨s0, s1⟩ := HCS.out k hkt
        have hcw := (hbl.block _ HL.out).trans HCW.out
        have d0 := (cells_of hcw (2 + k * 2)).trans s0
        have d1 := (cells_of hcw (2 + k * 2 + 1)).trans s1
        have hfi := HR.out.ts _ (List.getElem_mem hkt)
        have HNO := Lib.hid (mayRt_no hkt)
        have hmf : mayRf r.ts[k] = (decide (0 ≤ r.ts[k].off) && decide (r.ts[k].off = 0 ↔ r.ts[k].ct = 0)) := rfl
        have HNX := Lib.hid (refsOf_next hkt)
        generalize hd : r.ts[k] = d at *
        obtain ⟨o, c⟩ := d
        simp only at d0 d1 hfi hmf
        have HD : Hid (∀ h : k < r.ts.length, r.ts[k] = ⟨o, c⟩) := fun _ => hd
        clear hcells hW s0 s1 hcw hd e1
        have HOFI := Lib.hid hfi; have HMF := Lib.hid hmf; have HMS := Lib.hid hms; have HOWN := Lib.hid hown; have HBL := Lib.hid hbl; have HLT := Lib.hid hlt; have HKT := Lib.hid hkt
        have hc9 : (c : Int) ≤ 18446744073709551615 := by have := hfi.2.2; simp only at this; omega
        have ho9 : o ≤ 9223372036854775807 := hfi.2.1
        generalize hM : highOf r.nx.toNat 8 ++ refsOf (r.ts.take k) = M at *
        have HMM := Lib.hid hM
        have hMl : M.length ≤ 88 := by rw [← hM, List.length_append, highOf_length]; have := refs_length (ts := r.ts) (k := k); have := HF.out; omega
        have HML := Lib.hid hMl
        obtain ⟨wi, hwi⟩ : ∃ W, W = wr.alloc (.cells #[.int .i64 o, .int .u64 (c : Nat)] 24) := ⟨_, rfl⟩
        have hbi : Below W.heap.size W wi := by rw [hwi]; exact hbl.alloc hbl.size _
        have hgi : wi.heap[wr.heap.size]? = some (.cells #[.int .i64 o, .int .u64 (c : Nat)] 24 (0, 0)) := by rw [hwi]; exact heap_alloc_new wr _
        have HBI : Hid (Below w.heap.size w wi) := HB.out.trans (hbi.mono HB.out.size)
        by_cases h0 : 0 ≤ o
        · obtain ⟨q, rfl⟩ : ∃ q : Nat, o = q := ⟨o.toNat, by omega⟩
          obtain ⟨bq, hbq⟩ : ∃ b, (((q : Nat) : Int) == 0) = b := ⟨_, rfl⟩
          obtain ⟨bc, hbc⟩ : ∃ b, ((c : Int) == 0) = b := ⟨_, rfl⟩
          cases hz : (bq == bc) with
          | false =>
            have E : putRt r = [] := HNO.out (by
              rw [HMF.out]
              have h2 : ¬ ((((q : Nat) : Int) == 0) = ((c : Int) == 0)) := by rw [hbq, hbc]; simpa using hz
              rw [Bool.eq_iff_iff, beq_iff_eq, beq_iff_eq] at h2
              rw [decide_eq_false (show ¬ ((q : Int) = 0 ↔ c = 0) by omega)]
              simp)
            have HE := Lib.hid E
            have HWI := Lib.hid hwi
            clear E hM hbi hgi hMl
            generalize M.length = LM at *
            go_wp2
            rw [← HWI.out]
            go_ret
            exact ⟨_, rfl, by rw [HE.out]; exact World.ownsRow_nil _ _ _ _, HBI.out⟩
          | true =>
            have hgd : wi.drew.heap[wr.heap.size]? = some (.cells #[.int .i64 (q : Nat), .int .u64 (c : Nat)] 24 (0, 0)) := hgi
            have hPH : Ph W wr.heap.size (.int .i64 (q : Nat)) (.int .u64 (c : Nat)) wi.drew (.slice px M.length cx) M (.slice none 0 0) [] (.slice none 0 0) [] :=
              ⟨hbi.drew, cells_of hgd 0, cells_of hgd 1, fun e => by have := (HOWN.out.lt _ e).2; omega, owns_below (hown.alloc (.cells #[.int .i64 (q : Nat), .int .u64 (c : Nat)] 24)) (by rw [← hwi]; exact (Below.refl _ _).drew), Bytes.nil _, Bytes.nil _, fun e => absurd rfl e⟩
            have hwq : IntKind.u64.wrap (q : Int) = q := by rw [IntKind.wrap_u64]; omega
            have HWI := Lib.hid hwi
            have HQ : Hid (q < 18446744073709551616) := by unfold Hid; omega
            have HC : Hid (c < 18446744073709551616) := by unfold Hid; omega
            have g0 := hPH.c0
            have g1 := hPH.c1
            have HOK : Hid (mayRf ⟨(q : Int), c⟩ = true) := by
              unfold Hid
              rw [HMF.out, decide_eq_true (show (0 : Int) ≤ q by omega)]
              have : ((q : Int) == 0) = ((c : Int) == 0) := by rw [hbq, hbc]; simpa using hz
              rw [Bool.eq_iff_iff, beq_iff_eq, beq_iff_eq] at this
              rw [decide_eq_true (show (q : Int) = 0 ↔ c = 0 by omega)]
              rfl
            have HPH := Lib.hid hPH
            clear hM hbi hgi hMl hgd hPH hwi hown hbl hms hkt
            generalize hLM : M.length = LM at *
            have HLM := Lib.hid hLM
            clear hLM
            go_wp2
            rw [← HWI.out]
            have HL1 : Hid (M.length + (highOf q 8).length ≤ 1000000) := by unfold Hid; rw [highOf_length]; have := HML.out; have := HLM.out; omega
            have HL2 : Hid ((M ++ highOf q 8).length + (highOf c 8).length ≤ 1000000) := by unfold Hid; rw [List.length_append, highOf_length, highOf_length]; have := HML.out; have := HLM.out; omega
            have hph0 := HPH.out
            clear HPH HML HLM HMF HNO hmf hfi hc9 ho9 ha9
            go_region_law (first
              | (go_simp; go_at_call 19; with_reducible refine (ph_call1 q HQ.out (by assumption)).mono ?_; rintro e w5 ⟨p5, x5, rfl, hph5⟩; have g50 := hph5.c0; have g51 := hph5.c1)
              | (go_simp; go_at_call 19; with_reducible refine (ph_call2 c HC.out (by assumption)).mono ?_; rintro e w6 ⟨p6, x6, rfl, hph6⟩; have g60 := hph6.c0; have g61 := hph6.c1)
              | (obtain ⟨p7, n7, x7, w7, hrun7, hph7⟩ := ph_append1 (v := .slice px LM cx) (r1 := .slice p5 8 x5) (M := M) (l1 := highOf q 8) (by assumption) HL1.out; refine step_append_run rfl (.tmp 33) (.tmp 37) 28 28 rfl (.slice px LM cx) (.slice p5 8 x5) rfl rfl (.slice p7 n7 x7) w7 hrun7 ?_; clear hrun7; have g70 := hph7.c0; have g71 := hph7.c1)
              | (obtain ⟨p8, n8, x8, w8, hrun8, hph8⟩ := ph_append2 (v := .slice p7 n7 x7) (r2 := .slice p6 8 x6) (M := M ++ highOf q 8) (l2 := highOf c 8) (by assumption) HL2.out; refine step_append_run rfl (.tmp 38) (.tmp 41) 28 28 rfl (.slice p7 n7 x7) (.slice p6 8 x6) rfl rfl (.slice p8 n8 x8) w8 hrun8 ?_; clear hrun8))
            all_goals
              have hrel2 : RtRel W r (.slice p8 n8 x8) (.int .i64 (k + 1 : Nat)) w8 := by
                refine ⟨k + 1, HLT.out, rfl, fun j h hj => ?_, ?_, hph8.below⟩
                · by_cases hjk : j < k
                  · exact HMS.out j h hjk
                  · obtain rfl : j = k := by omega
                    rw [HD.out h]; exact HOK.out
                · have e : highOf r.nx.toNat 8 ++ refsOf (r.ts.take (k + 1)) = (M ++ highOf q 8) ++ highOf c 8 := by
                    rw [HNX.out, ← List.append_assoc, ← List.append_assoc, HMM.out, Int.toNat_natCast]
                  rw [e]; exact hph8.own
              have HREL2 := Lib.hid hrel2
              clear hrel2 hph8 hph7 hph6 hph5 hph0
              go_wp2
              go_roundw
              case rel => exact HREL2.out
              case measure => simp [intOf]; have := HLT.out; omega
        · have E := HNO.out (by rw [HMF.out, decide_eq_false h0]; rfl)
          have HE := Lib.hid E
          have HWI := Lib.hid hwi
          clear E hM hbi hgi hMl
          generalize M.length = LM at *
          go_wp2
          rw [← HWI.out]
          go_ret
          exact ⟨_, rfl, by rw [HE.out]; exact World.ownsRow_nil _ _ _ _, HBI.out⟩
      · have hk5 : k = 5 := by omega
        have hall : mayRt r = true := (mayRt_iff r).2 ⟨by rw [HA.out]; omega, fun d hd => by
          obtain ⟨j, hj, rfl⟩ := List.getElem_of_mem hd
          exact hms j hj (by have := HF.out; omega)⟩
        have E : highOf r.nx.toNat 8 ++ refsOf (r.ts.take k) = putRt r := by
          rw [List.take_of_length_le (by have := HF.out; omega)]
          unfold putRt
          rw [if_pos hall]
          rfl
        rw [E] at hown ⊢
        have HO : Hid (∃ v', (Value.slice px (putRt r).length cx) = v' ∧ wr.ownsRow w.heap.size 5 1 v' (putRt r).length (cellsOf (putRt r)) ∧ Below w.heap.size w wr) := ⟨_, rfl, owns_base hown HB.out.size, HB.out.trans (hbl.mono HB.out.size)⟩
        have HTO : Hid (∀ z w', (∃ v', z = .returned v' ∧ w'.ownsRow w.heap.size 5 1 v' (putRt r).length (cellsOf (putRt r)) ∧ Below w.heap.size w w') → Rows w (putRt r) z w') := fun _ _ h => h
        clear hown hbl hms hall E hk hlt
        generalize (putRt r).length = LP at *
        subst hk5
        go_wp2
        go_ret
        obtain ⟨v', e, h1, h2⟩ := HO.out
        exact HTO.out _ _ ⟨v', by rw [← e]; rfl, h1, h2⟩
  · have E : Hid (putRt r = []) := by
      unfold Hid putRt
      rw [if_neg]
      intro h2
      exact h0 ((mayRt_iff r).1 h2).1
    have h0i : ¬ 0 ≤ r.nx := h0
    generalize r.nx = nx at *
    go_enter Try.func10, Try.ntmps10
    go_wp2
    rw [← HW.out]
    go_ret
    exact ⟨_, rfl, by rw [E.out]; exact World.ownsRow_nil _ _ _ _, HB.out⟩
end Go.Proofs.Ytkhpblclpcgjnaa

