/- The disk: Copy. -/
import Derived.Test.YtobhhedggppneaaDskBE
import Derived.ArgAppend
import Derived.Lib.AppendZeros
import Derived.Deep.RegionHeld3
namespace Go.Proofs.Ytobhhedggppneaa
open Go Go.RowKit Go.By

set_option maxRecDepth 100000 in
theorem cloneNames_nil (w : World) : Calls Try.prog 42 #[.slice none 0 0] w fun e w' => e = .returned (.slice none 0 0) ∧ w = w' := by
  have hn : ∀ (q : Option Addr) (n c : Nat) (w0 : World), (binOp .eql 54 (.slice q n c) (.slice none 0 0)).run Try.prog w0 = .ok (.bool q.isNone) w0 := fun q n c w0 => Lib.run_eql_slice_nil w0 _ _ q n c 0 0 nameOps
  go_enter Try.func42, Try.ntmps42
  go_wp2
  go_ret
  exact ⟨rfl, rfl⟩

theorem opsV_one {w : World} {own : Own} : ∀ {cs : List Value} {l : List ByteOp}, OpsV w own cs l → ∀ u ∈ cs, u.oneCell' = true
  | [], _, _, u, hu => by cases hu
  | c :: cs, _, h, u, hu => by
    obtain ⟨o, os, _, h2, h3⟩ := h
    rcases List.mem_cons.1 hu with rfl | hu
    · cases o with
      | write off b => obtain ⟨bv, rfl, _⟩ := h2; rfl
      | cut n => obtain ⟨rfl, _⟩ := h2; rfl
    · exact opsV_one h3 u hu

set_option maxRecDepth 100000 in
theorem cloneOps_any (v : Value) (n : Nat) (cs : List Value) (w : World) (ho : w.ownsRow 0 98 1 v n cs) (h1 : ∀ u ∈ cs, u.oneCell' = true) (hnil : n = 0 → v = .slice none 0 0) (hn : n ≤ 1000000) :
    Calls Try.prog 52 #[v] w fun e w' => ∃ v', e = .returned v' ∧ w'.ownsRow 0 98 1 v' n cs ∧ (∀ k, v'.ownBlock = some k → w.heap.size ≤ k) ∧ (n = 0 → v' = .slice none 0 0) ∧ Below w.heap.size w w' := by
  have hq : ∀ (q : Option Addr) (n c : Nat) (w0 : World), (binOp .eql 63 (.slice q n c) (.slice none 0 0)).run Try.prog w0 = .ok (.bool q.isNone) w0 := fun q n c w0 => Lib.run_eql_slice_nil w0 _ _ q n c 0 0 byteOps
  by_cases h0 : n = 0
  · obtain rfl := hnil h0
    subst h0
    have HO := Lib.hid ho
    clear ho hnil h1 hn
    go_enter Try.func52, Try.ntmps52
    go_wp2
    go_ret
    exact ⟨_, rfl, HO.out, fun k hk => (by cases hk), fun _ => rfl, Below.refl _ _⟩
  · rcases ho.2 with ⟨_, hh⟩ | ⟨g, cap, cur, rfl, _, hg, hc, hm, _, _⟩
    · exact absurd hh h0
    · obtain ⟨i, hi, hz, hz1, hz2⟩ := info_parts byteOpInfo
      have hba : Below w.heap.size w (w.alloc (.cells #[] 98)) := (Below.refl _ _).alloc (Nat.le_refl _) _
      have hcells : ∀ j u, cs[j]? = some u → (w.alloc (.cells #[] 98)).cell? ((⟨g, 0, none⟩ : Addr).add j) = some u := fun j u hu => by
        have := ho.cells (g := g) rfl j u hu
        rw [Addr.add_lit] at this ⊢
        exact (hba.cell (p := ⟨g, _, none⟩) (Array.getElem?_eq_some_iff.1 hg).1).trans this
      have hlen : cs.length = n * 1 := ho.1
      obtain ⟨v', w', hrun, r1, r2, _⟩ := run_append_own_at (P := Try.prog) (w.alloc (.cells #[] 98)) w.heap.size 63 63 98 i .nilFunc 1 8 byteOps hi hz hz1 hz2 rfl (by omega) (.slice (some ⟨w.heap.size, 0, none⟩) 0 0) 0 [] (World.ownsRow_made w #[] 0 (Nat.le_refl _) (by decide) rfl) ⟨g, 0, none⟩ n cap cs hlen hcells h1 (by unfold maxLen; omega) (by omega) (by simp)
      rw [Nat.zero_add, List.nil_append] at r1
      have fin : w'.ownsRow 0 98 1 v' n cs ∧ (∀ k, v'.ownBlock = some k → w.heap.size ≤ k) ∧ Below w.heap.size w w' := by
        refine ⟨⟨r1.1, ?_⟩, fun k hk => (r1.lt k hk).1, hba.grown r2 (by simp) (by simp [Value.ownBlock])⟩
        rcases r1.2 with h' | ⟨g', c, cur', h1, _, h3⟩
        · exact .inl h'
        · exact .inr ⟨g', c, cur', h1, Nat.zero_le _, h3⟩
      have FIN := Lib.hid fin
      clear r1 r2 hcells ho hnil h1 hlen hg hi hz hz1 hz2 hm hba fin
      go_enter Try.func52, Try.ntmps52
      go_wp2_with (at_builtin; refine Lib.wpList_append_run _ rfl (.tmp 5) (.tmp 6) 63 63 rfl _ _ rfl rfl v' w' hrun ?_)
      clear hrun
      go_wp2
      go_ret
      exact ⟨_, rfl, FIN.out.1, FIN.out.2.1, fun h => absurd h h0, FIN.out.2.2⟩

theorem below_same {B : Nat} {w W : World} (e1 : W.heap = w.heap) (e2 : W.os = w.os) (e3 : W.tape = w.tape) (e4 : W.output = w.output) : Below B w W := ⟨e2, e3, e4, by rw [e1]; exact Nat.le_refl _, fun k _ => by rw [e1]⟩
theorem owns_below {w w' : World} {base : Nat} {e : TypeId} {v : Value} {n : Nat} {xs : List Value} {B : Nat} (h : w.ownsRow base e 1 v n xs) (hb : Below B w w') (hv : ∀ k, v.ownBlock = some k → k < B) : w'.ownsRow base e 1 v n xs :=
  ownsRow_of_heap h fun k hk => hb.block k (hv k hk)
theorem owns_lt {w : World} {base : Nat} {e : TypeId} {v : Value} {n : Nat} {xs : List Value} (h : w.ownsRow base e 1 v n xs) : ∀ k, v.ownBlock = some k → k < w.heap.size := fun k hk => (h.lt k hk).2
theorem owns_slice {w : World} {B : Nat} {e : TypeId} {v : Value} {n : Nat} {xs : List Value} (h : w.ownsRow B e 1 v n xs) : ∃ p c, v = .slice p n c := by
  rcases h.2 with ⟨h, h2⟩ | ⟨g, c, _, h, _⟩
  · exact ⟨none, 0, by rw [h, h2]⟩
  · exact ⟨_, c, h⟩
/-- A file, copied: its new block and what it holds. -/
structure FileCopy (own : Own) (w w' : World) (F : FileA) (fb : Nat) : Prop where
  out : ∃ sv kv lv cs, w'.heap[fb]? = some (.cells #[sv, kv, lv] 65 (0, 0)) ∧ w'.ownsRow 0 5 1 sv F.seen.length (cellsOf F.seen) ∧ w'.ownsRow 0 5 1 kv F.kept.length (cellsOf F.kept) ∧
    w'.ownsRow 0 98 1 lv F.laid.length cs ∧ OpsV w' own cs F.laid ∧ (F.laid = [] → lv = .slice none 0 0) ∧
    ∃ m1 m2, w.heap.size ≤ m1 ∧ m1 ≤ m2 ∧ m2 ≤ fb ∧ (∀ k, sv.ownBlock = some k → w.heap.size ≤ k ∧ k < m1) ∧ (∀ k, kv.ownBlock = some k → m1 ≤ k ∧ k < m2) ∧ (∀ k, lv.ownBlock = some k → m2 ≤ k ∧ k < fb)
  below : Below w.heap.size w w'

set_option maxRecDepth 100000 in
set_option maxHeartbeats 4000000 in
theorem fileCopy_any (own : Own) (n fb : Nat) (F : FileA) (w : World) (h : FileIs w own n fb F) (here : ∀ k r, own k = some r → k < w.heap.size) (hs : F.seen.length ≤ 17592186044416) (hk : F.kept.length ≤ 17592186044416) (hl : F.laid.length ≤ 1000000) :
    Calls Try.prog 43 #[.pointer (some ⟨fb, 0, none⟩)] w fun e w' => ∃ fb', e = .returned (.pointer (some ⟨fb', 0, none⟩)) ∧ FileCopy own w w' F fb' := by
  obtain ⟨⟨sv, kv, lv, cs, g1, g2, g3, g4, g5, g6⟩, hr, hbf⟩ := h
  have hlv : F.laid.length = 0 → lv = .slice none 0 0 := fun h0 => hbf lv (by rw [cell_of_row w fb 2 _ _ _ g1]; rfl) (List.length_eq_zero_iff.1 h0)
  have hfl : fb < w.heap.size := here fb _ hr
  have c0 := cells_of g1 0
  have c1 := cells_of g1 1
  have c2 := cells_of g1 2
  simp only [List.getElem?_toArray, List.getElem?_cons_zero, List.getElem?_cons_succ] at c0 c1 c2
  have HSV := Lib.hid (g2.bytes (by unfold maxLen; omega))
  have HKV := Lib.hid (g3.bytes (by unfold maxLen; omega))
  have HLV := Lib.hid g4
  have HOP := Lib.hid g6
  have HLB := Lib.hid g5
  have HNIL := Lib.hid hlv
  have HG1 := Lib.hid g1
  have HFL := Lib.hid hfl
  have HERE := Lib.hid here
  clear g1 g2 g3 g4 g5 g6 hlv hfl here hbf hr
  go_enter Try.func43, Try.ntmps43
  have HC1 : Hid (∀ W : World, W.heap = w.heap → W.os = w.os → W.tape = w.tape → W.output = w.output → Calls Try.prog 31 #[sv] W fun e w2 => ∃ p c, e = .returned (.slice p F.seen.length c) ∧ w2.cell? ⟨fb, 0, none⟩ = some sv ∧ w2.cell? ⟨fb, 1, none⟩ = some kv ∧ w2.cell? ⟨fb, 2, none⟩ = some lv ∧ w2.ownsRow 0 5 1 (.slice p F.seen.length c) F.seen.length (cellsOf F.seen) ∧ (∀ k, (Value.slice p F.seen.length c).ownBlock = some k → w.heap.size ≤ k) ∧ Below w.heap.size w w2) := by
    intro W e1 e2 e3 e4
    have hb0 : Below w.heap.size w W := below_same e1 e2 e3 e4
    refine (clone_any sv F.seen W (HSV.out.below hb0) hs).mono ?_
    rintro e w2 ⟨v', rfl, h2, h3, h4⟩
    have hb2 : Below w.heap.size w w2 := hb0.trans (h4.mono (by rw [e1]; exact Nat.le_refl _))
    obtain ⟨p, c, rfl⟩ := owns_slice h2
    exact ⟨p, c, rfl, (hb2.cell (p := ⟨fb, 0, none⟩) HFL.out).trans c0, (hb2.cell (p := ⟨fb, 1, none⟩) HFL.out).trans c1, (hb2.cell (p := ⟨fb, 2, none⟩) HFL.out).trans c2, h2, fun k hk => by have := h3 k hk; rw [e1] at this; exact this, hb2⟩
  have HC2 : Hid (∀ w2 : World, Below w.heap.size w w2 → ∀ W : World, W.heap = w2.heap → W.os = w2.os → W.tape = w2.tape → W.output = w2.output → Calls Try.prog 31 #[kv] W fun e w3 => ∃ p c, e = .returned (.slice p F.kept.length c) ∧ w3.cell? ⟨fb, 0, none⟩ = some sv ∧ w3.cell? ⟨fb, 1, none⟩ = some kv ∧ w3.cell? ⟨fb, 2, none⟩ = some lv ∧ w3.ownsRow 0 5 1 (.slice p F.kept.length c) F.kept.length (cellsOf F.kept) ∧ (∀ k, (Value.slice p F.kept.length c).ownBlock = some k → w2.heap.size ≤ k) ∧ Below w2.heap.size w2 w3) := by
    intro w2 hb W e1 e2 e3 e4
    have hb0 : Below w2.heap.size w2 W := below_same e1 e2 e3 e4
    refine (clone_any kv F.kept W ((HKV.out.below hb).below hb0) hk).mono ?_
    rintro e w3 ⟨v', rfl, h2, h3, h4⟩
    have hb2 : Below w2.heap.size w2 w3 := hb0.trans (h4.mono (by rw [e1]; exact Nat.le_refl _))
    have hbw : Below w.heap.size w w3 := hb.trans (hb2.mono hb.size)
    obtain ⟨p, c, rfl⟩ := owns_slice h2
    exact ⟨p, c, rfl, (hbw.cell (p := ⟨fb, 0, none⟩) HFL.out).trans c0, (hbw.cell (p := ⟨fb, 1, none⟩) HFL.out).trans c1, (hbw.cell (p := ⟨fb, 2, none⟩) HFL.out).trans c2, h2, fun k hk => by have := h3 k hk; rw [e1] at this; exact this, hb2⟩
  have HC3 : Hid (∀ w3 : World, Below w.heap.size w w3 → ∀ W : World, W.heap = w3.heap → W.os = w3.os → W.tape = w3.tape → W.output = w3.output → Calls Try.prog 52 #[lv] W fun e w4 => ∃ p c, e = .returned (.slice p F.laid.length c) ∧ w4.cell? ⟨fb, 0, none⟩ = some sv ∧ w4.cell? ⟨fb, 1, none⟩ = some kv ∧ w4.cell? ⟨fb, 2, none⟩ = some lv ∧ w4.ownsRow 0 98 1 (.slice p F.laid.length c) F.laid.length cs ∧ (∀ k, (Value.slice p F.laid.length c).ownBlock = some k → w3.heap.size ≤ k) ∧ (F.laid.length = 0 → (Value.slice p F.laid.length c) = .slice none 0 0) ∧ Below w3.heap.size w3 w4) := by
    intro w3 hb W e1 e2 e3 e4
    have hb0 : Below w3.heap.size w3 W := below_same e1 e2 e3 e4
    have hlvk : ∀ k, lv.ownBlock = some k → k < w.heap.size := fun k hk => HERE.out k _ (HLB.out k hk)
    refine (cloneOps_any lv F.laid.length cs W (ownsRow_of_heap (ownsRow_of_heap HLV.out fun k hk => hb.block k (hlvk k hk)) fun k _ => by rw [e1]) (opsV_one HOP.out) HNIL.out hl).mono ?_
    rintro e w4 ⟨v', rfl, h2, h3, h5, h4⟩
    have hb2 : Below w3.heap.size w3 w4 := hb0.trans (h4.mono (by rw [e1]; exact Nat.le_refl _))
    obtain ⟨p, c, rfl⟩ := owns_slice h2
    have hbw : Below w.heap.size w w4 := hb.trans (hb2.mono hb.size)
    exact ⟨p, c, rfl, (hbw.cell (p := ⟨fb, 0, none⟩) HFL.out).trans c0, (hbw.cell (p := ⟨fb, 1, none⟩) HFL.out).trans c1, (hbw.cell (p := ⟨fb, 2, none⟩) HFL.out).trans c2, h2, fun k hk => by have := h3 k hk; rw [e1] at this; exact this, h5, hb2⟩
  go_wp2
  go_region_held3 (fun w' => w'.cell? ⟨fb, 0, none⟩ = some sv ∧ w'.cell? ⟨fb, 1, none⟩ = some kv ∧ w'.cell? ⟨fb, 2, none⟩ = some lv) (go_keep)
    (first
      | (go_at_call 31; refine (HC1.out _ (by rfl) (by rfl) (by rfl) (by rfl)).mono ?_; rintro e w2 ⟨p1, q1, rfl, d0, d1, d2, o1, o2, hb1⟩)
      | (go_at_call 31; refine (HC2.out w2 hb1 _ (by rfl) (by rfl) (by rfl) (by rfl)).mono ?_; rintro e w3 ⟨p2, q2, rfl, d3, d4, d5, o3, o4, hb2⟩)
      | (go_at_call 52; refine (HC3.out w3 (hb1.trans (hb2.mono hb1.size)) _ (by rfl) (by rfl) (by rfl) (by rfl)).mono ?_; rintro e w4 ⟨p3, q3, rfl, d6, d7, d8, o5, o6, o7, hb3⟩))
  have hbw : Below w.heap.size w w4 := hb1.trans ((hb2.trans (hb3.mono hb2.size)).mono hb1.size)
  have z1 := hb1.size
  have z2 := hb2.size
  have z3 := hb3.size
  have hb5 := fun o => (Below.refl w4.heap.size w4).alloc (Nat.le_refl _) o
  have fin : FileCopy own w (w4.alloc (.cells #[.slice p1 F.seen.length q1, .slice p2 F.kept.length q2, .slice p3 F.laid.length q3] 65)) F w4.heap.size := by
    have hbw5 : Below w.heap.size w (w4.alloc (.cells #[.slice p1 F.seen.length q1, .slice p2 F.kept.length q2, .slice p3 F.laid.length q3] 65)) := hbw.trans ((hb5 _).mono (by omega))
    refine ⟨⟨_, _, _, cs, heap_alloc_new w4 _, ?_, ?_, ?_, HOP.out.stay (R := fun _ => True) ⟨fun _ _ h => h, fun k r hkr _ => hbw5.block k (HERE.out k r hkr)⟩ trivial, fun h0 => o7 (by rw [h0]; rfl), w2.heap.size, w3.heap.size, z1, z2, z3, fun k hkk => ⟨o2 k hkk, owns_lt o1 k hkk⟩, fun k hkk => ⟨o4 k hkk, owns_lt o3 k hkk⟩, fun k hkk => ⟨o6 k hkk, owns_lt o5 k hkk⟩⟩, hbw5⟩
    · exact owns_below (owns_below o1 (hb2.trans (hb3.mono z2)) (owns_lt o1)) (hb5 _) (fun k hkk => by have := owns_lt o1 k hkk; omega)
    · exact owns_below (owns_below o3 hb3 (owns_lt o3)) (hb5 _) (fun k hkk => by have := owns_lt o3 k hkk; omega)
    · exact owns_below o5 (hb5 _) (owns_lt o5)
  have FIN := Lib.hid fin
  clear fin hb5 o1 o2 o3 o4 o5 o6 o7 hbw z1 z2 z3 hb1 hb2 hb3
  go_wp2
  go_ret
  exact ⟨_, rfl, FIN.out⟩
end Go.Proofs.Ytobhhedggppneaa
namespace Go.Proofs.Ytobhhedggppneaa
open Go Go.RowKit Go.By

/-- A file that was copied: its block and what it holds, all of it at B or behind. -/
structure FileAt (own : Own) (B : Nat) (w' : World) (F : FileA) (fb : Nat) : Prop where
  out : ∃ sv kv lv cs, w'.heap[fb]? = some (.cells #[sv, kv, lv] 65 (0, 0)) ∧ w'.ownsRow 0 5 1 sv F.seen.length (cellsOf F.seen) ∧ w'.ownsRow 0 5 1 kv F.kept.length (cellsOf F.kept) ∧
    w'.ownsRow 0 98 1 lv F.laid.length cs ∧ OpsV w' own cs F.laid ∧ (F.laid = [] → lv = .slice none 0 0) ∧
    ∃ m1 m2, B ≤ m1 ∧ m1 ≤ m2 ∧ m2 ≤ fb ∧ (∀ k, sv.ownBlock = some k → B ≤ k ∧ k < m1) ∧ (∀ k, kv.ownBlock = some k → m1 ≤ k ∧ k < m2) ∧ (∀ k, lv.ownBlock = some k → m2 ≤ k ∧ k < fb)
theorem FileCopy.at_ {own : Own} {w w' : World} {F : FileA} {fb B : Nat} (h : FileCopy own w w' F fb) (hB : B ≤ w.heap.size) : FileAt own B w' F fb := by
  obtain ⟨sv, kv, lv, cs, g1, g2, g3, g4, g5, g6, m1, m2, h1, h2, h3, h4, h5, h6⟩ := h.out
  exact ⟨sv, kv, lv, cs, g1, g2, g3, g4, g5, g6, m1, m2, by omega, h2, h3, fun k hk => ⟨by have := (h4 k hk).1; omega, (h4 k hk).2⟩, h5, h6⟩
theorem FileAt.stay {own : Own} {B : Nat} {w w' : World} {F : FileA} {fb : Nat} (h : FileAt own B w F fb) (hk : ∀ k, B ≤ k → w'.heap[k]? = w.heap[k]?) (hi : ∀ k r, own k = some r → w'.heap[k]? = w.heap[k]?) : FileAt own B w' F fb := by
  obtain ⟨sv, kv, lv, cs, g1, g2, g3, g4, g5, g6, m1, m2, h1, h2, h3, h4, h5, h6⟩ := h.out
  exact ⟨sv, kv, lv, cs, (hk fb (by omega)).trans g1, ownsRow_of_heap g2 fun k hkk => hk k (h4 k hkk).1, ownsRow_of_heap g3 fun k hkk => hk k (by have := (h5 k hkk).1; omega), ownsRow_of_heap g4 fun k hkk => hk k (by have := (h6 k hkk).1; omega),
    g5.stay (R := fun _ => True) ⟨fun _ _ h => h, fun k r hr _ => hi k r hr⟩ trivial, g6, m1, m2, h1, h2, h3, h4, h5, h6⟩

/-- What the copy's loop keeps. -/
structure Copying (own : Own) (w : World) (bf fb : Nat) (D : DiskA) (es ek ef : Array MapEntry) (cs ck cf : Nat) (seen : Array Nat) (wr : World) : Prop where
  rng : Mp.Ranged wr bf (w.heap.size + 4) ef cf seen
  cell : wr.heap[w.heap.size]? = some (.cells (diskCells D (.map (some (w.heap.size + 1))) (.map (some (w.heap.size + 2))) (.slice none 0 0) (.map (some (w.heap.size + 3)))) 58 (0, 0))
  ms : wr.heap[w.heap.size + 1]? = some (.map es cs)
  mm : wr.heap[w.heap.size + 2]? = some (.map ek ck)
  below : Below w.heap.size w wr
  size : w.heap.size + 5 ≤ wr.heap.size
  st : (seen = #[] ∧ Mp.Is wr (w.heap.size + 3) natV ptrV ([] : List (Nat × Nat))) ∨ (Mp.came ef seen 0 ∧ ∃ fb', Mp.Is wr (w.heap.size + 3) natV ptrV [(1, fb')] ∧ FileAt own (w.heap.size + 5) wr (D.cont 1) fb')

/-- What Copy leaves. -/
structure Copied (own : Own) (w w' : World) (D : DiskA) (es ek : Array MapEntry) (cs ck : Nat) : Prop where
  cell : w'.heap[w.heap.size]? = some (.cells (diskCells D (.map (some (w.heap.size + 1))) (.map (some (w.heap.size + 2))) (.slice none 0 0) (.map (some (w.heap.size + 3)))) 58 (0, 0))
  ms : w'.heap[w.heap.size + 1]? = some (.map es cs)
  mm : w'.heap[w.heap.size + 2]? = some (.map ek ck)
  below : Below w.heap.size w w'
  file : ∃ fb', Mp.Is w' (w.heap.size + 3) natV ptrV [(1, fb')] ∧ FileAt own (w.heap.size + 5) w' (D.cont 1) fb'
theorem Copying.done {own : Own} {w : World} {bf fb : Nat} {D : DiskA} {es ek ef : Array MapEntry} {cs ck cf : Nat} {seen : Array Nat} {wr : World} (h : Copying own w bf fb D es ek ef cs ck cf seen wr) (hall : Mp.came ef seen 0) : Copied own w wr D es ek cs ck := by
  refine ⟨h.cell, h.ms, h.mm, h.below, ?_⟩
  rcases h.st with ⟨rfl, _⟩ | ⟨_, h2⟩
  · obtain ⟨e, _, he⟩ := hall
    simp at he
  · exact h2

set_option maxRecDepth 100000 in
set_option maxHeartbeats 2000000 in
theorem copy_one (own : Own) (a bs bk bf fb : Nat) (D : DiskA) (w : World) (h : DiskIs w own a D) (hfm : D.fm = [(1, fb)]) (hl : D.laid = []) (hc : (D.cont 1).seen.length ≤ 17592186044416 ∧ (D.cont 1).kept.length ≤ 17592186044416 ∧ (D.cont 1).laid.length ≤ 1000000)
    (h1 : w.heap[a]? = some (.cells (diskCells D (.map (some bs)) (.map (some bk)) (.slice none 0 0) (.map (some bf))) 58 (0, 0))) (h2 : Parts w own (.map (some bs)) (.map (some bk)) (.map (some bf)) (.slice none 0 0) D) :
    Calls Try.prog 19 #[.pointer (some ⟨a, 0, none⟩)] w fun e w' => e = .returned (.pointer (some ⟨w.heap.size, 0, none⟩)) ∧ ∃ es ek cs ck, w.heap[bs]? = some (.map es cs) ∧ w.heap[bk]? = some (.map ek ck) ∧ Copied own w w' D es ek cs ck := by
  have hal : a < w.heap.size := h.here a _ h.role
  have H := Lib.hid h; have H2 := Lib.hid h2
  obtain ⟨rks, rkk, rkf, hms, hmk, hmf⟩ : own bs = some .seen ∧ own bk = some .kept ∧ own bf = some .files ∧ Mp.Is w bs strV natV D.seen ∧ Mp.Is w bk strV natV D.kept ∧ Mp.Is w bf natV ptrV D.fm := by
    refine ⟨?_, ?_, ?_, ?_, ?_, ?_⟩
    · rcases h2.seen with ⟨e, _⟩ | ⟨b, e, hb, _⟩ <;> cases e; exact hb
    · rcases h2.kept with ⟨e, _⟩ | ⟨b, e, hb, _⟩ <;> cases e; exact hb
    · rcases h2.files with ⟨e, _⟩ | ⟨b, e, hb, _⟩ <;> cases e; exact hb
    · rcases h2.seen with ⟨e, _⟩ | ⟨b, e, _, hb⟩ <;> cases e; exact hb
    · rcases h2.kept with ⟨e, _⟩ | ⟨b, e, _, hb⟩ <;> cases e; exact hb
    · rcases h2.files with ⟨e, _⟩ | ⟨b, e, _, hb⟩ <;> cases e; exact hb
  have hbs := hms.lt
  have hbk := hmk.lt
  have hbf := hmf.lt
  obtain ⟨⟨es, cs, hes, hls, hos, hns⟩, hks⟩ := hms
  obtain ⟨⟨ek, ck, hek, hlk, hok, hnk⟩, hkk⟩ := hmk
  have HMF := Lib.hid hmf
  have c0 := cells_of h1 0
  have c1 := cells_of h1 1
  have c2 := cells_of h1 2
  have c3 := cells_of h1 3
  have c4 := cells_of h1 4
  have c5 := cells_of h1 5
  have c6 := cells_of h1 6
  have c7 := cells_of h1 7
  have c8 := cells_of h1 8
  unfold diskCells at c0 c1 c2 c3 c4 c5 c6 c7 c8
  simp only [List.getElem?_toArray, List.getElem?_cons_zero, List.getElem?_cons_succ] at c0 c1 c2 c3 c4 c5 c6 c7 c8
  have d4 := fun o => (World.cell?_alloc_lt w o ⟨a, 4, none⟩ hal).trans c4
  have HES := Lib.hid hes; have HEK := Lib.hid hek; have HLS := Lib.hid hls; have HLK := Lib.hid hlk; have HOS := Lib.hid hos; have HOK := Lib.hid hok; have HNS := Lib.hid hns; have HNK := Lib.hid hnk; have HKS := Lib.hid hks; have HKK := Lib.hid hkk
  have HAL := Lib.hid hal; have HBS := Lib.hid hbs; have HBK := Lib.hid hbk; have HBF := Lib.hid hbf; have H1 := Lib.hid h1
  clear h h1 h2 hes hek hls hlk hos hok hns hnk hks hkk hmf hal hbs hbk hbf
  go_enter Try.func19, Try.ntmps19
  go_wp2_with fail
  -- the copied structure
  have g1 := heap_alloc_new w (.cells (diskCells D (.map (some bs)) (.map (some bk)) (.slice none 0 0) (.map (some bf))) 58)
  have b1 : Below w.heap.size w (w.alloc (.cells (diskCells D (.map (some bs)) (.map (some bk)) (.slice none 0 0) (.map (some bf))) 58)) := (Below.refl _ _).alloc (Nat.le_refl _) _
  have z1 : (w.alloc (.cells (diskCells D (.map (some bs)) (.map (some bk)) (.slice none 0 0) (.map (some bf))) 58)).heap.size = w.heap.size + 1 := by simp
  unfold diskCells at g1 b1 z1
  clear d4
  generalize w.alloc (.cells #[.int .i64 D.room, .int .i64 D.used, .int .i64 D.ops, .int .i64 D.left, .map (some bs), .map (some bk), .slice none 0 0, .int .i64 D.made, .map (some bf)] 58) = W1 at *
  refine (cloneMap_any bs es cs W1 ((b1.block bs HBS.out).trans HES.out)).mono ?_
  rintro e W2 ⟨rfl, hW2⟩
  rw [z1]
  have z2 : W2.heap.size = w.heap.size + 2 := by rw [hW2]; simp [z1]
  have m2 : W2.heap[w.heap.size + 1]? = some (.map es cs) := by rw [hW2, ← z1]; exact heap_alloc_new _ _
  have g2 : W2.heap[w.heap.size]? = some (.cells (diskCells D (.map (some bs)) (.map (some bk)) (.slice none 0 0) (.map (some bf))) 58 (0, 0)) := by rw [hW2, Below.heap_alloc _ _ _ (by omega)]; exact g1
  have b2 : Below w.heap.size w W2 := by rw [hW2]; exact b1.alloc (by omega) _
  have s3 := set_heap g2 4 (.map (some (w.heap.size + 1)))
  have t4 := cells_of g2 4
  have f4 := free_of g2
  have b3 : Below w.heap.size w (W2.setCell ⟨w.heap.size, 4, none⟩ (.map (some (w.heap.size + 1)))) := b2.setCell (Nat.le_refl _) _
  have q5 := (b3.cell (p := ⟨a, 5, none⟩) HAL.out).trans c5
  unfold diskCells at t4
  simp only [List.getElem?_toArray, List.getElem?_cons_zero, List.getElem?_cons_succ] at t4
  have g3 : (W2.setCell ⟨w.heap.size, 4, none⟩ (.map (some (w.heap.size + 1)))).heap[w.heap.size]? = some (.cells (diskCells D (.map (some (w.heap.size + 1))) (.map (some bk)) (.slice none 0 0) (.map (some bf))) 58 (0, 0)) := s3.1
  have m3 : (W2.setCell ⟨w.heap.size, 4, none⟩ (.map (some (w.heap.size + 1)))).heap[w.heap.size + 1]? = some (.map es cs) := (s3.2 _ (by omega)).trans m2
  have z3 : (W2.setCell ⟨w.heap.size, 4, none⟩ (.map (some (w.heap.size + 1)))).heap.size = w.heap.size + 2 := by simpa using z2
  have G3 := Lib.hid g3; have B3 := Lib.hid b3; have M3 := Lib.hid m3; have Z3 := Lib.hid z3
  clear hW2 g1 b1 z1 g2 b2 s3 b3 m2 z2 g3 m3 z3
  go_wp2_with fail
  clear t4 f4
  generalize W2.setCell ⟨w.heap.size, 4, none⟩ (.map (some (w.heap.size + 1))) = W3 at *
  have b3 := B3.out
  have zz3 := Z3.out
  refine (cloneMap_any bk ek ck W3 ((b3.block bk HBK.out).trans HEK.out)).mono ?_
  rintro e W4 ⟨rfl, hW4⟩
  rw [zz3]
  have z4 : W4.heap.size = w.heap.size + 3 := by rw [hW4]; simp [zz3]
  have m4 : W4.heap[w.heap.size + 1]? = some (.map es cs) := by rw [hW4, Below.heap_alloc _ _ _ (by omega)]; exact M3.out
  have n4 : W4.heap[w.heap.size + 2]? = some (.map ek ck) := by rw [hW4, ← zz3]; exact heap_alloc_new _ _
  have g4 : W4.heap[w.heap.size]? = some (.cells (diskCells D (.map (some (w.heap.size + 1))) (.map (some bk)) (.slice none 0 0) (.map (some bf))) 58 (0, 0)) := by rw [hW4, Below.heap_alloc _ _ _ (by omega)]; exact G3.out
  have b4 : Below w.heap.size w W4 := by rw [hW4]; exact b3.alloc (by omega) _
  have s5 := set_heap g4 5 (.map (some (w.heap.size + 2)))
  have t5 := cells_of g4 5
  have f5 := free_of g4
  have b5 : Below w.heap.size w (W4.setCell ⟨w.heap.size, 5, none⟩ (.map (some (w.heap.size + 2)))) := b4.setCell (Nat.le_refl _) _
  have q6 := (b5.cell (p := ⟨a, 6, none⟩) HAL.out).trans c6
  unfold diskCells at t5
  simp only [List.getElem?_toArray, List.getElem?_cons_zero, List.getElem?_cons_succ] at t5
  have g5 : (W4.setCell ⟨w.heap.size, 5, none⟩ (.map (some (w.heap.size + 2)))).heap[w.heap.size]? = some (.cells (diskCells D (.map (some (w.heap.size + 1))) (.map (some (w.heap.size + 2))) (.slice none 0 0) (.map (some bf))) 58 (0, 0)) := s5.1
  have m5 : (W4.setCell ⟨w.heap.size, 5, none⟩ (.map (some (w.heap.size + 2)))).heap[w.heap.size + 1]? = some (.map es cs) := (s5.2 _ (by omega)).trans m4
  have n5 : (W4.setCell ⟨w.heap.size, 5, none⟩ (.map (some (w.heap.size + 2)))).heap[w.heap.size + 2]? = some (.map ek ck) := (s5.2 _ (by omega)).trans n4
  have z5 : (W4.setCell ⟨w.heap.size, 5, none⟩ (.map (some (w.heap.size + 2)))).heap.size = w.heap.size + 3 := by simpa using z4
  have G5 := Lib.hid g5; have B5 := Lib.hid b5; have M5 := Lib.hid m5; have N5 := Lib.hid n5; have Z5 := Lib.hid z5
  clear hW4 g4 b4 z4 m4 n4 s5 b5 g5 m5 n5 z5 b3 zz3 B3 G3 M3 Z3 q5
  go_wp2_with fail
  clear t5 f5 q6
  generalize W4.setCell ⟨w.heap.size, 5, none⟩ (.map (some (w.heap.size + 2))) = W5 at *
  refine (cloneNames_nil W5).mono ?_
  rintro e W5' ⟨rfl, rfl⟩
  have g5 := G5.out
  have b5 := B5.out
  have s6 := set_heap g5 6 (.slice none 0 0)
  have t6 := cells_of g5 6
  have f6 := free_of g5
  unfold diskCells at t6
  simp only [List.getElem?_toArray, List.getElem?_cons_zero, List.getElem?_cons_succ] at t6
  obtain ⟨W6, hW6⟩ : ∃ W6, W6 = W5.setCell ⟨w.heap.size, 6, none⟩ (.slice none 0 0) := ⟨_, rfl⟩
  rw [← hW6] at s6
  have b6 : Below w.heap.size w W6 := by rw [hW6]; exact b5.setCell (Nat.le_refl _) _
  have z6 : W6.heap.size = w.heap.size + 3 := by rw [hW6]; simpa using Z5.out
  have g6 : W6.heap[w.heap.size]? = some (.cells (diskCells D (.map (some (w.heap.size + 1))) (.map (some (w.heap.size + 2))) (.slice none 0 0) (.map (some bf))) 58 (0, 0)) := s6.1
  have m6 : W6.heap[w.heap.size + 1]? = some (.map es cs) := (s6.2 _ (by omega)).trans M5.out
  have n6 : W6.heap[w.heap.size + 2]? = some (.map ek ck) := (s6.2 _ (by omega)).trans N5.out
  have q8 : (W5.setCell ⟨w.heap.size, 6, none⟩ (.slice none 0 0)).cell? ⟨a, 8, none⟩ = some (.map (some bf)) := by rw [← hW6]; exact (b6.cell (p := ⟨a, 8, none⟩) HAL.out).trans c8
  have hmf6 : Mp.Is (W5.setCell ⟨w.heap.size, 6, none⟩ (.slice none 0 0)) bf natV ptrV D.fm := by rw [← hW6]; exact HMF.out.of_heap (b6.block bf HBF.out)
  have hlen := Mp.Is.len (P := Try.prog) (t := 56) hmf6 filesT
  rw [hfm, List.length_singleton] at hlen
  obtain ⟨W7, hW7⟩ : ∃ W7, W7 = W6.alloc (.map #[] 0) := ⟨_, rfl⟩
  have hmk7' : (Instr.makeMap 56 (some (.int .i64 ((1 : Nat) : Int)))).run Try.prog (W5.setCell ⟨w.heap.size, 6, none⟩ (.slice none 0 0)) = .ok (.map (some (w.heap.size + 3))) W7 := by
    rw [← hW6, run_makeMap_int filesT, hW7, z6]
  have hmk7 : (Instr.makeMap 56 (some (.int .i64 1))).run Try.prog (W5.setCell ⟨w.heap.size, 6, none⟩ (.slice none 0 0)) = .ok (.map (some (w.heap.size + 3))) W7 := hmk7'
  clear hmk7'
  have z7 : W7.heap.size = w.heap.size + 4 := by rw [hW7]; simp [z6]
  have b7 : Below w.heap.size w W7 := by rw [hW7]; exact b6.alloc (by omega) _
  have g7 : W7.heap[w.heap.size]? = some (.cells (diskCells D (.map (some (w.heap.size + 1))) (.map (some (w.heap.size + 2))) (.slice none 0 0) (.map (some bf))) 58 (0, 0)) := by rw [hW7, Below.heap_alloc _ _ _ (by omega)]; exact g6
  have m7 : W7.heap[w.heap.size + 1]? = some (.map es cs) := by rw [hW7, Below.heap_alloc _ _ _ (by omega)]; exact m6
  have n7 : W7.heap[w.heap.size + 2]? = some (.map ek ck) := by rw [hW7, Below.heap_alloc _ _ _ (by omega)]; exact n6
  have i7 : Mp.Is W7 (w.heap.size + 3) natV ptrV ([] : List (Nat × Nat)) := by
    have := Mp.Is.made W6 natV ptrV
    rw [← hW7, z6] at this
    exact this
  have s8 := set_heap g7 8 (.map (some (w.heap.size + 3)))
  have t8 := cells_of g7 8
  have f8 := free_of g7
  unfold diskCells at t8
  simp only [List.getElem?_toArray, List.getElem?_cons_zero, List.getElem?_cons_succ] at t8
  obtain ⟨W8, hW8⟩ : ∃ W8, W8 = W7.setCell ⟨w.heap.size, 8, none⟩ (.map (some (w.heap.size + 3))) := ⟨_, rfl⟩
  rw [← hW8] at s8
  have b8 : Below w.heap.size w W8 := by rw [hW8]; exact b7.setCell (Nat.le_refl _) _
  have z8 : W8.heap.size = w.heap.size + 4 := by rw [hW8]; simpa using z7
  have q9 : (W7.setCell ⟨w.heap.size, 8, none⟩ (.map (some (w.heap.size + 3)))).cell? ⟨a, 8, none⟩ = some (.map (some bf)) := by rw [← hW8]; exact (b8.cell (p := ⟨a, 8, none⟩) HAL.out).trans c8
  obtain ⟨⟨ef, cf, hef, hlf, hof, hnf⟩, hkf⟩ : Mp.Is W8 bf natV ptrV D.fm := HMF.out.of_heap (b8.block bf HBF.out)
  obtain ⟨W9, hW9⟩ : ∃ W9, W9 = W8.alloc (.mapIter (some bf) cf #[] cf) := ⟨_, rfl⟩
  have hrg : (Instr.range 56 (.map (some bf))).run Try.prog (W7.setCell ⟨w.heap.size, 8, none⟩ (.map (some (w.heap.size + 3)))) = .ok (.pointer (some ⟨w.heap.size + 4, 0, none⟩)) W9 := by
    rw [← hW8, run_range_map W8 56 3 62 bf ef cf filesT hef, hW9, z8]
  have g8 : W8.heap[w.heap.size]? = some (.cells (diskCells D (.map (some (w.heap.size + 1))) (.map (some (w.heap.size + 2))) (.slice none 0 0) (.map (some (w.heap.size + 3)))) 58 (0, 0)) := s8.1
  have G9 : Hid (W9.heap[w.heap.size]? = some (.cells (diskCells D (.map (some (w.heap.size + 1))) (.map (some (w.heap.size + 2))) (.slice none 0 0) (.map (some (w.heap.size + 3)))) 58 (0, 0))) := by unfold Hid; rw [hW9, Below.heap_alloc _ _ _ (by omega)]; exact g8
  have M9 : Hid (W9.heap[w.heap.size + 1]? = some (.map es cs)) := by unfold Hid; rw [hW9, Below.heap_alloc _ _ _ (by omega)]; exact (s8.2 _ (by omega)).trans m7
  have N9 : Hid (W9.heap[w.heap.size + 2]? = some (.map ek ck)) := by unfold Hid; rw [hW9, Below.heap_alloc _ _ _ (by omega)]; exact (s8.2 _ (by omega)).trans n7
  have I9 : Hid (Mp.Is W9 (w.heap.size + 3) natV ptrV ([] : List (Nat × Nat))) := (i7.of_heap (s8.2 _ (by omega))).of_heap (by rw [hW9]; exact Below.heap_alloc _ _ _ (by omega))
  have B9 : Hid (Below w.heap.size w W9) := by unfold Hid; rw [hW9]; exact b8.alloc (by omega) _
  have Z9 : Hid (W9.heap.size = w.heap.size + 5) := by unfold Hid; rw [hW9]; simp [z8]
  have R9 : Hid (Mp.Ranged W9 bf (w.heap.size + 4) ef cf #[]) := ⟨by rw [hW9, Below.heap_alloc _ _ _ (by have := HBF.out; omega)]; exact hef, by rw [hW9, ← z8]; exact heap_alloc_new W8 _⟩
  have HLF := Lib.hid hlf; have HOF := Lib.hid hof; have HNF := Lib.hid hnf
  clear hef hlf hof hnf hkf g5 b5 s6 b6 z6 g6 m6 n6 hmf6 z7 b7 g7 m7 n7 i7 s8 b8 z8 g8 hW6 hW7 hW8 hW9 G5 B5 M5 N5 Z5
  have hst : Copying own w bf fb D es ek ef cs ck cf #[] W9 := ⟨R9.out, G9.out, M9.out, N9.out, B9.out, Nat.le_of_eq Z9.out.symm, .inl ⟨rfl, I9.out⟩⟩
  have HST := Lib.hid hst
  clear hst R9 G9 M9 N9 B9 Z9 I9
  go_wp2
  clear hlen hmk7 hrg q8 q9 t6 f6 t8 f8
  go_loopw [4] (fun _ wr => ∃ seen, Copying own w bf fb D es ek ef cs ck cf seen wr) (fun _ wr => leftIn wr (w.heap.size + 4) bf)
  case atStart => exact ⟨_, HST.out⟩
  case round =>
    clear HST
    obtain ⟨seen, hC⟩ := hrel
    have hR0 := hC.rng.next (P := Try.prog) HLF.out HOF.out HNF.out 0
    rw [hfm] at hR0
    rcases hR0 with ⟨hall, hnx⟩ | ⟨i, pr, e, w1, hp, he, hel, hw1, hnx, hR, hen⟩
    · have HD := Lib.hid (hC.done (hall 0 (by simp)))
      clear hC hall
      go_wp2
      go_ret
      exact ⟨rfl, es, ek, cs, ck, HES.out, HEK.out, HD.out⟩
    · obtain ⟨rfl, rfl⟩ : i = 0 ∧ pr = (1, fb) := by
        cases i with
        | zero => exact ⟨rfl, (Option.some.inj hp).symm⟩
        | succ i => simp at hp
      have hi0 : Mp.Is wr (w.heap.size + 3) natV ptrV ([] : List (Nat × Nat)) ∧ seen = #[] := by
        rcases hC.st with ⟨h, h'⟩ | ⟨⟨e', q1, q2⟩, _⟩
        · exact ⟨h', h⟩
        · exfalso
          rw [he] at q1
          obtain rfl := Option.some.inj q1
          unfold leftOf at hel
          rw [Array.toList_filter] at hel
          have := (List.mem_filter.1 hel).2
          simp at this
          exact this (by simpa using q2)
      have hbf := HBF.out
      obtain ⟨W, hW⟩ : ∃ W, W = ChangeMaps.setBlock w1 (w.heap.size + 4) (.mapIter (some bf) cf (seen.push e.born) cf) := ⟨_, rfl⟩
      rw [← hW] at hnx hR hen
      have hRW := hR (by omega)
      have henW := hen (by omega)
      have kW : ∀ j, j ≠ w.heap.size + 4 → W.heap[j]? = wr.heap[j]? := fun j hj => by
        rw [hW]
        show (w1.heap.setIfInBounds _ _)[j]? = _
        rw [Array.getElem?_setIfInBounds_ne (fun e => hj e.symm)]
        rcases hw1 with rfl | rfl <;> rfl
      have zW : W.heap.size = wr.heap.size := by
        rw [hW]
        show (w1.heap.setIfInBounds _ _).size = _
        rcases hw1 with rfl | rfl <;> simp
      have oW : W.os = wr.os ∧ W.tape = wr.tape ∧ W.output = wr.output := by
        rw [hW]
        rcases hw1 with rfl | rfl <;> exact ⟨rfl, rfl, rfl⟩
      have hb := hC.below
      have hz := hC.size
      have bW : Below w.heap.size w W := ⟨oW.1.trans hb.os, oW.2.1.trans hb.tape, oW.2.2.trans hb.output, by omega, fun k hk => (kW k (by omega)).trans (hb.block k hk)⟩
      have iW : Mp.Is W (w.heap.size + 3) natV ptrV ([] : List (Nat × Nat)) := hi0.1.of_heap (kW _ (by omega))
      have gW := (kW w.heap.size (by omega)).trans hC.cell
      have mW := (kW (w.heap.size + 1) (by omega)).trans hC.ms
      have nW := (kW (w.heap.size + 2) (by omega)).trans hC.mm
      have cW : W.cell? ⟨w.heap.size, 8, none⟩ = some (.map (some (w.heap.size + 3))) := cells_of gW 8
      have hfile : FileIs w own 1 fb (D.cont 1) := H2.out.each 1 fb (by rw [hfm]; rfl)
      have hhere : ∀ k r, own k = some r → k < w.heap.size := H.out.here
      have HC : Hid (∀ V : World, V.heap = W.heap → V.os = W.os → V.tape = W.tape → V.output = W.output → Calls Try.prog 43 #[.pointer (some ⟨fb, 0, none⟩)] V fun e1 w' => ∃ fb' w2, e1 = .returned (.pointer (some ⟨fb', 0, none⟩)) ∧ w'.cell? ⟨w.heap.size, 8, none⟩ = some (.map (some (w.heap.size + 3))) ∧
          (Instr.mapUpdate 56 (.map (some (w.heap.size + 3))) (.int .i64 1) (.pointer (some ⟨fb', 0, none⟩))).run Try.prog w' = .ok () w2 ∧ w2.cell? ⟨w.heap.size, 8, none⟩ = some (.map (some (w.heap.size + 3))) ∧ Copying own w bf fb D es ek ef cs ck cf (seen.push e.born) w2) := by
        intro V e1 e2 e3 e4
        have hb0 : Below W.heap.size W V := below_same e1 e2 e3 e4
        have zV : V.heap.size = W.heap.size := by rw [e1]
        have bV : Below w.heap.size w V := bW.trans (hb0.mono bW.size)
        have fV : FileIs V own 1 fb (D.cont 1) := hfile.stay (R := fun _ => True) ⟨fun _ _ h => h, fun k r hk _ => bV.block k (hhere k r hk)⟩ trivial trivial trivial trivial trivial
        refine (fileCopy_any own 1 fb (D.cont 1) V fV (fun k r hk => by have := hhere k r hk; have := bV.size; omega) hc.1 hc.2.1 hc.2.2).mono ?_
        rintro e' w' ⟨fb', rfl, hF⟩
        have hFB := hF.below
        have zF := hFB.size
        have kF : ∀ k, k < W.heap.size → w'.heap[k]? = W.heap[k]? := fun k hk => (hFB.block k (by omega)).trans (by rw [e1])
        have i' : Mp.Is w' (w.heap.size + 3) natV ptrV ([] : List (Nat × Nat)) := iW.of_heap (kF _ (by omega))
        obtain ⟨w2, hup, hi2, hg2, hz2⟩ := update_world i' natK filesT 1 fb'
        have k2 : ∀ k, k ≠ w.heap.size + 3 → w2.heap[k]? = w'.heap[k]? := fun k hk => by
          by_cases hlt : k < w'.heap.size
          · exact hg2.block k hlt (fun e => hk (Option.some.inj e))
          · rw [Array.getElem?_eq_none (by omega), Array.getElem?_eq_none (by omega)]
        have kW2 : ∀ k, k < W.heap.size → k ≠ w.heap.size + 3 → w2.heap[k]? = W.heap[k]? := fun k hk hn => (k2 k hn).trans (kF k hk)
        have g2 := (kW2 w.heap.size (by omega) (by omega)).trans gW
        have hhup : (Instr.mapUpdate 56 (.map (some (w.heap.size + 3))) (.int .i64 1) (.pointer (some ⟨fb', 0, none⟩))).run Try.prog w' = .ok () w2 := hup
        refine ⟨fb', w2, rfl, cells_of ((kF w.heap.size (by omega)).trans gW) 8, hhup, cells_of g2 8, ⟨?_, g2, (kW2 _ (by omega) (by omega)).trans mW, (kW2 _ (by omega) (by omega)).trans nW, ?_, by omega, .inr ⟨⟨e, he, by simp⟩, fb', hi2, (hF.at_ (by omega)).stay (fun k hk => k2 k (by omega)) (fun k r hr => k2 k (by have := hhere k r hr; omega))⟩⟩⟩
        · exact ⟨(kW2 bf (by omega) (by omega)).trans hRW.map, (kW2 _ (by omega) (by omega)).trans hRW.iter⟩
        · exact (bV.trans (hFB.mono bV.size)).grown hg2 (by omega) (by intro k hk; have := Option.some.inj hk; omega)
      have hms := fun (w2 : World) (h : Copying own w bf fb D es ek ef cs ck cf (seen.push e.born) w2) => show leftIn w2 (w.heap.size + 4) bf < leftIn wr (w.heap.size + 4) bf by rw [leftIn_of h.rng, leftIn_of hC.rng]; exact Mp.left_less hel
      have HMS := Lib.hid hms
      have CW := cW
      unfold natV ptrV at hnx henW
      clear hms hi0 hW hR hen hRW kW zW oW hb hz bW iW gW mW nW cW hfile hhere hC hp he hel hw1 hbf
      go_wp2
      go_region_held3 (fun w' => w'.cell? ⟨w.heap.size, 8, none⟩ = some (.map (some (w.heap.size + 3)))) (go_keep)
        (first
          | (go_at_call 43; refine (HC.out _ (by rfl) (by rfl) (by rfl) (by rfl)).mono ?_; rintro e1 w11 ⟨fb', w12, rfl, q1, hup, q2, hC2⟩))
      all_goals
        have HC2 := Lib.hid hC2
        clear hC2 hup q1 q2
        go_wp2
        go_roundw
        case rel => exact ⟨_, HC2.out⟩
        case measure => exact HMS.out _ HC2.out
end Go.Proofs.Ytobhhedggppneaa
namespace Go.Proofs.Ytobhhedggppneaa
open Go Go.RowKit Go.By

theorem opsV_reown {w : World} {own own' : Own} (h : ∀ k, own k = some .ink → own' k = some .ink) : ∀ {cs : List Value} {l : List ByteOp}, OpsV w own cs l → OpsV w own' cs l
  | [], _, hh => hh
  | _ :: _, _, hh => by
    obtain ⟨o, os, h1, h2, h3⟩ := hh
    refine ⟨o, os, h1, ?_, opsV_reown h h3⟩
    cases o with
    | write off b => obtain ⟨bv, q1, q2, q3, q4⟩ := h2; exact ⟨bv, q1, q2, fun k hk => h k (q3 k hk), q4⟩
    | cut n => exact h2

/-- The roles of the copy's blocks. -/
def copyOwn (own : Own) (c fb : Nat) (sv kv lv : Value) : Own := fun k =>
  if k = c then some .disk else if k = c + 1 then some .seen else if k = c + 2 then some .kept else if k = c + 3 then some .files else if k = fb then some (.file 1)
  else if sv.ownBlock = some k then some (.fseen 1) else if kv.ownBlock = some k then some (.fkept 1) else if lv.ownBlock = some k then some (.flaid 1)
  else if own k = some .ink then some .ink else none

theorem copied_is {own : Own} {a bs bk bf fb : Nat} {D : DiskA} {w w' : World} (h : DiskIs w own a D) (hfm : D.fm = [(1, fb)]) (hl : D.laid = []) (h2 : Parts w own (.map (some bs)) (.map (some bk)) (.map (some bf)) (.slice none 0 0) D)
    {es ek : Array MapEntry} {cs ck : Nat} (hes : w.heap[bs]? = some (.map es cs)) (hek : w.heap[bk]? = some (.map ek ck)) (hC : Copied own w w' D es ek cs ck) :
    ∃ own' fb', DiskIs w' own' w.heap.size { D with fm := [(1, fb')] } ∧ ∀ k r, own' k = some r → (w.heap.size ≤ k ∧ r ≠ .ink) ∨ (own k = some .ink ∧ r = .ink) := by
  obtain ⟨fb', hfi, hfa⟩ := hC.file
  obtain ⟨sv, kv, lv, cs', g1, g2, g3, g4, g5, g6, m1, m2, h1, h3, h4, q1, q2, q3⟩ := hfa.out
  have hz := hC.below.size
  have here := h.here
  have hF : FileIs w own 1 fb (D.cont 1) := h2.each 1 fb (by rw [hfm]; rfl)
  obtain ⟨⟨sv0, kv0, lv0, cs0, _, r2, r3, _, _, _⟩, _, _⟩ := hF
  have hfbl : fb' < w'.heap.size := (Array.getElem?_eq_some_iff.1 g1).1
  have rD : copyOwn own w.heap.size fb' sv kv lv w.heap.size = some .disk := if_pos rfl
  have rS : copyOwn own w.heap.size fb' sv kv lv (w.heap.size + 1) = some .seen := by unfold copyOwn; rw [if_neg (by omega), if_pos rfl]
  have rK : copyOwn own w.heap.size fb' sv kv lv (w.heap.size + 2) = some .kept := by unfold copyOwn; rw [if_neg (by omega), if_neg (by omega), if_pos rfl]
  have rF : copyOwn own w.heap.size fb' sv kv lv (w.heap.size + 3) = some .files := by unfold copyOwn; rw [if_neg (by omega), if_neg (by omega), if_neg (by omega), if_pos rfl]
  have rB : copyOwn own w.heap.size fb' sv kv lv fb' = some (.file 1) := by unfold copyOwn; rw [if_neg (by omega), if_neg (by omega), if_neg (by omega), if_neg (by omega), if_pos rfl]
  have rs : ∀ k, sv.ownBlock = some k → copyOwn own w.heap.size fb' sv kv lv k = some (.fseen 1) := fun k hk => by
    have := q1 k hk
    unfold copyOwn
    rw [if_neg (by omega), if_neg (by omega), if_neg (by omega), if_neg (by omega), if_neg (by omega), if_pos hk]
  have rk : ∀ k, kv.ownBlock = some k → copyOwn own w.heap.size fb' sv kv lv k = some (.fkept 1) := fun k hk => by
    have := q2 k hk
    unfold copyOwn
    rw [if_neg (by omega), if_neg (by omega), if_neg (by omega), if_neg (by omega), if_neg (by omega), if_neg (fun e => by have := q1 k e; omega), if_pos hk]
  have rl : ∀ k, lv.ownBlock = some k → copyOwn own w.heap.size fb' sv kv lv k = some (.flaid 1) := fun k hk => by
    have := q3 k hk
    unfold copyOwn
    rw [if_neg (by omega), if_neg (by omega), if_neg (by omega), if_neg (by omega), if_neg (by omega), if_neg (fun e => by have := q1 k e; omega), if_neg (fun e => by have := q2 k e; omega), if_pos hk]
  have ri : ∀ k, own k = some .ink → copyOwn own w.heap.size fb' sv kv lv k = some .ink := fun k hk => by
    have := here k _ hk
    unfold copyOwn
    rw [if_neg (by omega), if_neg (by omega), if_neg (by omega), if_neg (by omega), if_neg (by omega), if_neg (fun e => by have := q1 k e; omega), if_neg (fun e => by have := q2 k e; omega), if_neg (fun e => by have := q3 k e; omega), if_pos hk]
  have inv : ∀ k r, copyOwn own w.heap.size fb' sv kv lv k = some r → (w.heap.size ≤ k ∧ k < w'.heap.size ∧ r ≠ .ink ∧ (r = .disk → k = w.heap.size)) ∨ (own k = some .ink ∧ r = .ink) := fun k r hk => by
    unfold copyOwn at hk
    split at hk
    · cases hk; rename_i e; exact .inl ⟨by omega, by omega, by decide, fun _ => e⟩
    split at hk
    · cases hk; exact .inl ⟨by omega, by omega, by decide, fun e => (by cases e)⟩
    split at hk
    · cases hk; exact .inl ⟨by omega, by omega, by decide, fun e => (by cases e)⟩
    split at hk
    · cases hk; exact .inl ⟨by omega, by omega, by decide, fun e => (by cases e)⟩
    split at hk
    · cases hk; exact .inl ⟨by omega, by omega, by decide, fun e => (by cases e)⟩
    split at hk
    · rename_i e; cases hk; have := q1 k e; exact .inl ⟨by omega, by omega, by decide, fun e => (by cases e)⟩
    split at hk
    · rename_i e; cases hk; have := q2 k e; exact .inl ⟨by omega, by omega, by decide, fun e => (by cases e)⟩
    split at hk
    · rename_i e; cases hk; have := q3 k e; exact .inl ⟨by omega, by omega, by decide, fun e => (by cases e)⟩
    split at hk
    · rename_i e; cases hk; exact .inr ⟨e, rfl⟩
    · cases hk
  have hms : Mp.Is w bs strV natV D.seen := by
    rcases h2.seen with ⟨e, _⟩ | ⟨b, e, _, hb⟩ <;> cases e; exact hb
  have hmk : Mp.Is w bk strV natV D.kept := by
    rcases h2.kept with ⟨e, _⟩ | ⟨b, e, _, hb⟩ <;> cases e; exact hb
  have is1 : Mp.Is w' (w.heap.size + 1) strV natV D.seen := by
    obtain ⟨⟨es', cs'', e1, e2, e3, e4⟩, e5⟩ := hms
    rw [hes] at e1; cases e1
    exact ⟨⟨es, cs, hC.ms, e2, e3, e4⟩, e5⟩
  have is2 : Mp.Is w' (w.heap.size + 2) strV natV D.kept := by
    obtain ⟨⟨es', cs'', e1, e2, e3, e4⟩, e5⟩ := hmk
    rw [hek] at e1; cases e1
    exact ⟨⟨ek, ck, hC.mm, e2, e3, e4⟩, e5⟩
  have fileC : FileIs w' (copyOwn own w.heap.size fb' sv kv lv) 1 fb' (D.cont 1) :=
    ⟨⟨sv, kv, lv, cs', g1, ⟨g2, rs, r2.small⟩, ⟨g3, rk, r3.small⟩, g4, rl, opsV_reown ri g5⟩, rB, fun lv' hl' h0 => by rw [third_cell g1 (x := lv) rfl hl']; exact g6 h0⟩
  refine ⟨copyOwn own w.heap.size fb' sv kv lv, fb', ⟨⟨_, _, _, _, hC.cell, ?_⟩, rD, fun k hk => ?_, fun k r hk => ?_⟩, fun k r hk => ?_⟩
  · refine ⟨.inr ⟨_, rfl, rS, is1⟩, .inr ⟨_, rfl, rK, is2⟩, ?_, fun k hk => (by cases hk), .inr ⟨_, rfl, rF, hfi⟩, fun n fbn hn => ?_, fun e => (by cases e), fun _ => ⟨by simp, by simp⟩, fun _ => rfl⟩
    · show w'.ownsRow 0 _ 1 (.slice none 0 0) D.laid.length (D.laid.map nameV)
      rw [hl]; exact World.ownsRow_nil _ _ _ _
    · have hn' : Mp.get [(1, fb')] n = some fbn := hn
      unfold Mp.get at hn'
      by_cases e1 : 1 = n
      · rw [if_pos e1] at hn'
        subst e1
        cases hn'
        exact fileC
      · rw [if_neg e1] at hn'
        cases hn'
  · rcases inv k _ hk with ⟨_, _, _, e⟩ | ⟨_, e⟩
    · exact e rfl
    · cases e
  · rcases inv k r hk with ⟨_, e, _⟩ | ⟨e, _⟩
    · exact e
    · have := here k _ e; omega
  · rcases inv k r hk with ⟨e1, _, e2, _⟩ | e
    · exact .inl ⟨e1, e2⟩
    · exact .inr e

/-- Copy, of a disk that has one file and nothing laid by. -/
theorem copy_any (own : Own) (a fb : Nat) (D : DiskA) (w : World) (h : DiskIs w own a D) (hs : D.seen ≠ []) (hfm : D.fm = [(1, fb)]) (hl : D.laid = []) (hc : (D.cont 1).seen.length ≤ 17592186044416 ∧ (D.cont 1).kept.length ≤ 17592186044416 ∧ (D.cont 1).laid.length ≤ 1000000) :
    Calls Try.prog 19 #[.pointer (some ⟨a, 0, none⟩)] w fun e w' => e = .returned (.pointer (some ⟨w.heap.size, 0, none⟩)) ∧ Below w.heap.size w w' ∧
      ∃ own' fb', DiskIs w' own' w.heap.size { D with fm := [(1, fb')] } ∧ ∀ k r, own' k = some r → (w.heap.size ≤ k ∧ r ≠ .ink) ∨ (own k = some .ink ∧ r = .ink) := by
  obtain ⟨ms, mk, mf, lv, h1, h2⟩ := h.out
  obtain ⟨bk, rfl⟩ : ∃ bk, mk = .map (some bk) := by
    rcases h2.kept with ⟨e, _⟩ | ⟨b, e, _⟩
    · exact absurd (h2.bare e).1 hs
    · exact ⟨b, e⟩
  have hf := h2.full (by simp)
  obtain ⟨bs, rfl⟩ : ∃ bs, ms = .map (some bs) := by
    rcases h2.seen with ⟨e, _⟩ | ⟨b, e, _⟩
    · exact absurd e hf.1
    · exact ⟨b, e⟩
  obtain ⟨bf, rfl⟩ : ∃ bf, mf = .map (some bf) := by
    rcases h2.files with ⟨e, _⟩ | ⟨b, e, _⟩
    · exact absurd e hf.2
    · exact ⟨b, e⟩
  obtain rfl := h2.bareL hl
  refine (copy_one own a bs bk bf fb D w h hfm hl hc h1 h2).mono ?_
  rintro e w' ⟨rfl, es, ek, cs, ck, hes, hek, hC⟩
  exact ⟨rfl, hC.below, copied_is h hfm hl h2 hes hek hC⟩
end Go.Proofs.Ytobhhedggppneaa
