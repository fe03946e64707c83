/- Ranks: keys of numbers; rows of changes, as a law appends them. -/
import Derived.Test.YtlagllhhahomlaaGreatMRkF
import Derived.Test.YtlagllhhahomlaaGreatMBaC
import Derived.Test.YtlagllhhahomlaaGreatMRefL
import Derived.Test.YtlagllhhahomlaaGreatMLfF
namespace Go.By
open Go Go.RowKit
def sqCh (i : Nat) : NCh := ⟨highOf i 8, [118], false⟩
def sqIt (i : Nat) : NIt := ⟨highOf i 8, [118]⟩
def sqChs (k : Nat) : List NCh := (List.range k).map sqCh
def sqIts (k : Nat) : List NIt := (List.range k).map sqIt
theorem sqChs_length (k : Nat) : (sqChs k).length = k := by simp [sqChs]
theorem sqIts_length (k : Nat) : (sqIts k).length = k := by simp [sqIts]
theorem sqChs_succ (k : Nat) : sqChs (k + 1) = sqChs k ++ [sqCh k] := by simp [sqChs, List.range_succ]
theorem sq_less {i j : Nat} (hi : i < 1000000) (hj : j < 1000000) : lessN (highOf i 8) (highOf j 8) = decide (i < j) :=
  lessN_high 8 i j (Nat.lt_trans hi (by decide)) (Nat.lt_trans hj (by decide))
theorem puts_fold : ∀ (l : List NCh) (made : List NIt), (∀ c ∈ l, c.out = false) → l.foldl stepAll ([], made) = ([], made ++ l.map fun c => (⟨c.k, c.v⟩ : NIt))
  | [], made, _ => by simp
  | c :: l, made, h => by
    have h0 := h c List.mem_cons_self
    have e : stepAll ([], made) c = ([], made ++ [⟨c.k, c.v⟩]) := by simp [stepAll, step1, step2, step3, front, passed, putsCh, h0]
    rw [List.foldl_cons, e, puts_fold l _ (fun x hx => h x (List.mem_cons_of_mem _ hx))]
    simp
theorem puts_apply {l : List NCh} (h : ∀ c ∈ l, c.out = false) : applyN [] l = l.map fun c => (⟨c.k, c.v⟩ : NIt) := by
  unfold applyN
  rw [puts_fold l [] h]
  simp
theorem sq_apply (k : Nat) : applyN [] (sqChs k) = sqIts k := by
  rw [puts_apply (fun c hc => by obtain ⟨i, -, rfl⟩ := List.mem_map.1 hc; rfl)]
  unfold sqChs sqIts
  rw [List.map_map]
  rfl
theorem sq_pw {k : Nat} (hk : k ≤ 1000) : (sqIts k).Pairwise BelowIt := by
  unfold sqIts
  rw [List.pairwise_map]
  refine List.Pairwise.imp_of_mem ?_ (List.pairwise_lt_range (n := k))
  intro a b ha hb hab
  have h1 := List.mem_range.1 ha
  have h2 := List.mem_range.1 hb
  show lessN (highOf a 8) (highOf b 8) = true
  rw [sq_less (by omega) (by omega)]
  exact decide_eq_true hab
theorem sq_fine (k : Nat) : ∀ i ∈ sqIts k, FineIt i := by
  intro i hi
  obtain ⟨j, -, rfl⟩ := List.mem_map.1 hi
  refine ⟨(mayIt_iff _).2 ⟨(mayK_iff _).2 ?_, by show 1 ≤ 120; decide⟩, fun c hc => highOf_small _ _ c hc, fun c hc => ?_⟩
  · show 1 ≤ (highOf j 8).length ∧ (highOf j 8).length ≤ 40
    rw [highOf_length]
    decide
  · have hc' : c ∈ [118] := hc
    simp at hc'
    omega
theorem rises_of : ∀ (l : List NCh) (last : List Nat), (∀ c, l.head? = some c → lessN last c.k = true) → l.Pairwise (fun a b => lessN a.k b.k = true) → (∀ c ∈ l, c.k.length ≤ 40 ∧ c.v.length ≤ mostVal c) → risesCh last l = true
  | [], _, _, _, _ => rfl
  | c :: r, last, h1, h2, h3 => by
    obtain ⟨h4, h5⟩ := List.pairwise_cons.1 h2
    have h6 := h3 c List.mem_cons_self
    have ih := rises_of r c.k (fun d hd => h4 d (List.mem_of_mem_head? hd)) h5 (fun d hd => h3 d (List.mem_cons_of_mem _ hd))
    unfold risesCh okCh
    rw [ih, h1 c rfl, decide_eq_true h6.1, decide_eq_true h6.2]
    rfl
theorem sq_rises {k : Nat} (hk : k ≤ 1000) : risesCh [] (sqChs k) = true := by
  refine rises_of _ _ (fun c hc => ?_) ?_ (fun c hc => ?_)
  · obtain ⟨i, -, rfl⟩ := List.mem_map.1 (List.mem_of_mem_head? hc)
    show lessN [] (highOf i 8) = true
    have := highOf_length i 8
    cases h : highOf i 8 with
    | nil => rw [h] at this; cases this
    | cons a r => rfl
  · unfold sqChs
    rw [List.pairwise_map]
    refine List.Pairwise.imp_of_mem ?_ (List.pairwise_lt_range (n := k))
    intro a b ha hb hab
    have h1 := List.mem_range.1 ha
    have h2 := List.mem_range.1 hb
    show lessN (highOf a 8) (highOf b 8) = true
    rw [sq_less (by omega) (by omega)]
    exact decide_eq_true hab
  · obtain ⟨i, -, rfl⟩ := List.mem_map.1 hc
    refine ⟨?_, by show 1 ≤ 120; decide⟩
    show (highOf i 8).length ≤ 40
    rw [highOf_length]
    decide
theorem sq_count_from {a : Nat} (ha : a ≤ 1000) : ∀ (k : Nat), k ≤ 1000 → cntS (highOf a 8) [] true (sqIts k) = k - a
  | 0, _ => by simp [sqIts, cntS]
  | k + 1, hk => by
    have ih := sq_count_from ha k (by omega)
    have e : sqIts (k + 1) = sqIts k ++ [sqIt k] := by simp [sqIts, List.range_succ]
    have e2 : inS (highOf a 8) [] true (sqIt k).k = !decide (k < a) := by
      show (!lessN (highOf k 8) (highOf a 8) && true) = _
      rw [sq_less (by omega) (by omega), Bool.and_true]
    rw [e, cntS_app, ih, cntS_one, e2]
    by_cases h : k < a
    · rw [decide_eq_true h]; simp; omega
    · rw [decide_eq_false h]; simp; omega
theorem sq_count_one {a : Nat} (ha : a ≤ 1000) : ∀ (k : Nat), k ≤ 1000 → cntS (highOf a 8) (highOf (a + 1) 8) false (sqIts k) = if a < k then 1 else 0
  | 0, _ => by simp [sqIts, cntS]
  | k + 1, hk => by
    have ih := sq_count_one ha k (by omega)
    have e : sqIts (k + 1) = sqIts k ++ [sqIt k] := by simp [sqIts, List.range_succ]
    have e2 : inS (highOf a 8) (highOf (a + 1) 8) false (sqIt k).k = (!decide (k < a) && decide (k < a + 1)) := by
      show (!lessN (highOf k 8) (highOf a 8) && (false || lessN (highOf k 8) (highOf (a + 1) 8))) = _
      rw [sq_less (by omega) (by omega), sq_less (by omega) (by omega), Bool.false_or]
    rw [e, cntS_app, ih, cntS_one, e2]
    by_cases h1 : k < a
    · have q1 : ¬ a < k := by omega
      have q2 : ¬ a < k + 1 := by omega
      simp [h1, q1, q2]
    · by_cases h2 : k < a + 1
      · obtain rfl : k = a := by omega
        simp
      · have q1 : a < k := by omega
        have q2 : a < k + 1 := by omega
        simp [h1, h2, q1, q2]
end Go.By
namespace Go.Proofs.YtlagllhhahomlaaGreat.Sl.Nd
open Go Go.RowKit Go.By Lf
set_option maxRecDepth 1000000 in
theorem info_change : ∃ i, Tryz.prog.info? 59 = some i ∧ i.zero = some (.agg #[.slice none 0 0, .slice none 0 0, .bool false]) ∧ i.size = 3 ∧ i.bytes = 56 := ⟨_, rfl, rfl, rfl, rfl⟩
def TxB (w : World) (v a : Value) (l : List Nat) : Prop := Bytes w a l ∧ ∀ k, a.ownBlock = some k → k < w.heap.size ∧ v.ownBlock ≠ some k
def chCells (c : Value × Value) : List Value := [c.1, c.2, .bool false]
def ChRow (w : World) (B : Nat) (v : Value) (l : List NCh) : Prop :=
  ∃ cs : List (Value × Value), cs.length = l.length ∧ w.ownsRow B 59 3 v l.length (cs.flatMap chCells) ∧ ∀ j (h : j < l.length) (h' : j < cs.length), l[j].out = false ∧ TxB w v cs[j].1 l[j].k ∧ TxB w v cs[j].2 l[j].v
theorem ChRow.nil (w : World) (B : Nat) : ChRow w B (.slice none 0 0) [] := ⟨[], rfl, World.ownsRow_nil _ _ _ _, fun _j h => absurd h (Nat.not_lt_zero _)⟩
theorem TxB.below {w w' : World} {v a : Value} {l : List Nat} (h : TxB w v a l) (hb : Below w.heap.size w w') : TxB w' v a l := ⟨h.1.below hb, fun k hk => ⟨Nat.lt_of_lt_of_le (h.2 k hk).1 hb.size, (h.2 k hk).2⟩⟩
theorem ChRow.below {w w' : World} {B : Nat} {v : Value} {l : List NCh} (h : ChRow w B v l) (hb : Below w.heap.size w w') : ChRow w' B v l := by
  obtain ⟨cs, h1, h2, h3⟩ := h
  exact ⟨cs, h1, owns_below' h2 hb, fun j hj hj' => ⟨(h3 j hj hj').1, (h3 j hj hj').2.1.below hb, (h3 j hj hj').2.2.below hb⟩⟩
theorem ChRow.lt {w : World} {B : Nat} {v : Value} {l : List NCh} (h : ChRow w B v l) : ∀ k, v.ownBlock = some k → k < w.heap.size := by
  obtain ⟨cs, h1, h2, h3⟩ := h
  exact fun k hk => (h2.lt k hk).2
theorem TxB.grows {w w' : World} {v v' a : Value} {l : List Nat} (h : TxB w v a l) (hg : Grows w w' v v') : TxB w' v' a l := by
  refine ⟨h.1.kept hg.by_ ?_, fun k hk => ⟨Nat.lt_of_lt_of_le (h.2 k hk).1 hg.by_.size, fun e => ?_⟩⟩
  · cases ha : a.ownBlock with
    | none => exact .inl rfl
    | some k => exact .inr (fun e => (h.2 k ha).2 e.symm)
  · rcases hg.new with h1 | ⟨g, h1, h2⟩
    · rw [h1] at e; exact (h.2 k hk).2 e
    · rw [h1] at e
      have := Option.some.inj e
      have := (h.2 k hk).1
      omega
theorem ChRow.push {w : World} {B : Nat} {v a c : Value} {l : List NCh} {x : NCh} (h : ChRow w B v l) (hn : l.length ≤ 1000000) (hB : B ≤ w.heap.size) (ho : x.out = false) (ha : TxB w v a x.k) (hc : TxB w v c x.v) :
    ∃ v' w', (Builtin.append_ #[62, 62] 62 #[v, .slice (some ⟨w.heap.size, 0, none⟩) 1 1]).run Tryz.prog (w.alloc (.cells #[a, c, .bool false] 59)) = .ok v' w' ∧ ChRow w' B v' (l ++ [x]) ∧ Grows w w' v v' := by
  obtain ⟨cs, h1, h2, h3⟩ := h
  obtain ⟨i, hi, hz, hs, hby⟩ := info_change
  obtain ⟨pa, ca, rfl, -⟩ := ha.1.any
  obtain ⟨pc, cc, rfl, -⟩ := hc.1.any
  obtain ⟨v', w', hr, ho', hg⟩ := run_append_grows (P := Tryz.prog) (w := w.alloc (.cells #[.slice pa x.k.length ca, .slice pc x.v.length cc, .bool false] 59)) 62 (t := 62) (e := 59) (by kernel_rfl) hi hz hs hby rfl (by decide) B v l.length (cs.flatMap chCells) (h2.alloc _) w.heap.size 0 1 1 [.slice pa x.k.length ca, .slice pc x.v.length cc, .bool false] rfl (by
    intro j u hu
    rw [Nat.zero_add]
    have := cells_of (heap_alloc_new w (.cells #[.slice pa x.k.length ca, .slice pc x.v.length cc, .bool false] 59)) j
    rw [this]
    simpa using hu) (by simp [Value.oneCell']) (by unfold maxLen; omega) (by omega) (by simp; omega)
  have hga := (Grows.alloc w v (.cells #[.slice pa x.k.length ca, .slice pc x.v.length cc, .bool false] 59)).trans hg
  refine ⟨v', w', hr, ⟨cs ++ [(.slice pa x.k.length ca, .slice pc x.v.length cc)], by simp [h1], by simpa [chCells] using ho', fun j hj hj' => ?_⟩, hga⟩
  by_cases hlt : j < l.length
  · rw [List.getElem_append_left hlt, List.getElem_append_left (by omega)]
    exact ⟨(h3 j hlt (by omega)).1, (h3 j hlt (by omega)).2.1.grows hga, (h3 j hlt (by omega)).2.2.grows hga⟩
  · obtain rfl : j = l.length := by simp at hj; omega
    rw [List.getElem_append_right (Nat.le_refl _), List.getElem_append_right (by omega)]
    simp only [h1, Nat.sub_self, List.getElem_singleton]
    exact ⟨ho, ha.grows hga, hc.grows hga⟩
theorem ChRow.at_ {w : World} {B : Nat} {v : Value} {l : List NCh} (h : ChRow w B v l) : ∃ p cap, v = .slice p l.length cap ∧ RowAt KChange w p cap l := by
  obtain ⟨cs, h1, h2, h3⟩ := h
  obtain ⟨p, cap, rfl, q1, q2, q3⟩ := owns_at h2 (by decide)
  refine ⟨p, cap, rfl, q1, q2, fun j hj => ?_⟩
  have hj' : j < cs.length := by omega
  have e := fun i (hi : i < 3) => flat_three (f := chCells) (fun _ => rfl) (xs := cs) (j := j) (i := i) hj' hi
  obtain ⟨g, rfl, c0⟩ := q3 _ cs[j].1 (by rw [e 0 (by decide)]; rfl)
  obtain ⟨g1, hg1, c1⟩ := q3 _ cs[j].2 (by rw [e 1 (by decide)]; rfl)
  obtain ⟨g2, hg2, c2⟩ := q3 _ (.bool false) (by rw [e 2 (by decide)]; rfl)
  cases hg1; cases hg2
  refine ⟨g, 0, [cs[j].1, cs[j].2, .bool false], rfl, fun i hi => ?_, KChange.mk (h3 j hj hj').1.symm (h3 j hj hj').2.1.1 (h3 j hj hj').2.2.1⟩
  match i, hi with
  | 0, _ => simpa [KChange] using c0
  | 1, _ => simpa [KChange, Nat.add_assoc] using c1
  | 2, _ => simpa [KChange, Nat.add_assoc] using c2
theorem ChRow.shape {w : World} {B : Nat} {v : Value} {l : List NCh} (h : ChRow w B v l) : ∃ p c, v = .slice p l.length c := by
  obtain ⟨p, c, e, -⟩ := h.at_
  exact ⟨p, c, e⟩
end Go.Proofs.YtlagllhhahomlaaGreat.Sl.Nd
/- The law RankFew: between a key and the end of a tree of so many items there are so many, one fewer with each item further. -/
namespace Go.Proofs.YtlagllhhahomlaaGreat.Sl.Nd
open Go Go.RowKit Go.By Lf
def FwLoop (w3 : World) (N : Nat) (x i : Value) (W : World) : Prop := ∃ k, k ≤ N ∧ i = .int .i64 k ∧ ChRow W w3.heap.size x (sqChs k) ∧ Below w3.heap.size w3 W
theorem own_slot {q j n c : Nat} (h : (Value.slice (some ⟨q, 0, none⟩) n c).ownBlock = some j) : q = j := by simpa [Value.ownBlock] using h
def SqTold (i : Nat) (w : World) (z : Ending) (w' : World) : Prop := ∃ g c, z = .returned (.slice (some ⟨g, 0, none⟩) 8 c) ∧ w.heap.size ≤ g ∧ g < w'.heap.size ∧ Bytes w' (.slice (some ⟨g, 0, none⟩) 8 c) (highOf i 8) ∧ Below w.heap.size w w'
theorem seq_any (i : Nat) (hi : i < 1000000) (w : World) : Calls Tryz.prog 22 #[.int .i64 i] w (SqTold i w) := by
  refine (refSeq_any (i : Int) w (by omega)).mono ?_
  rintro e w' ⟨v, rfl, ho, hb⟩
  have e8 : seqK (i : Int) = highOf i 8 := by unfold seqK; rw [if_pos (by omega)]; simp
  rw [e8] at ho
  have hby := ho.bytes (highOf_small i 8)
  obtain ⟨p, c, rfl⟩ := ho.shape
  have h8 := highOf_length i 8
  rw [h8] at ho hby ⊢
  rcases ho with ⟨h1, h2⟩ | ⟨g, cap, h1, h2, h3, -⟩
  · rw [h2] at h8; cases h8
  · simp only [Value.slice.injEq] at h1
    obtain ⟨rfl, -, rfl⟩ := h1
    exact ⟨g, c, rfl, h2, h3, hby, hb⟩
set_option maxRecDepth 100000 in
set_option maxHeartbeats 4000000 in
theorem rankFew_any (n a : Nat) (hn : n < 256) (ha : a < 256) (w : World) : Calls Tryz.prog 8 #[.int .u8 n, .int .u8 a] w fun e w' => e = .returned (.bool true) ∧ Below w.heap.size w w' := by
  have hcv := fun (w : World) (C : Array Value) (n c : Nat) => Lib.run_convert_bytes_const (P := Tryz.prog) w 26 5 C n c byT.slice byT.elem
  have hn9 : (n : Int) ≤ 255 := by omega
  have ha9 : (a : Int) ≤ 255 := by omega
  go_enter Tryz.func8, Tryz.ntmps8
  go_wp2_with fail
  refine (begun15_any w).mono ?_
  rintro e w1 ⟨rfl, hb1⟩
  have HB1 := Lib.hid hb1
  clear hb1
  go_wp2_with fail
  refine (new13_any w1).mono ?_
  rintro e w3 ⟨b, g, own, rfl, ht3⟩
  have HT3 := Lib.hid ht3
  obtain ⟨N, hN⟩ : ∃ N, N = n + 1 := ⟨_, rfl⟩
  have HN := Lib.hid hN
  have hw1 : IntKind.i64.wrap (n : Int) = n := by rw [IntKind.wrap_i64]; omega
  have hw2 : IntKind.i64.wrap (1 + (n : Int)) = (N : Nat) := by rw [IntKind.wrap_i64]; omega
  have hN9 : (N : Int) ≤ 256 := by omega
  have H0 : Hid (FwLoop w3 N (.slice none 0 0) (.int .i64 (0 : Nat)) w3) := ⟨0, Nat.zero_le _, rfl, ChRow.nil _ _, Below.refl _ _⟩
  clear ht3 hN hn
  go_wp2_with fail
  go_loopw [8, 10] (fun x i W => FwLoop w3 N x i W) (fun _ i _ => N - (intOf i).toNat)
  case atStart => exact H0.out
  case round =>
    clear H0
    obtain ⟨k, hk, rfl, hrow, hB⟩ := hrel
    by_cases hlt : k < N
    · have hki : (k : Int) < N := by omega
      have hSQ := seq_any k (by omega) wr
      have HSQ := Lib.hid hSQ
      have hxs := hrow.shape
      rw [sqChs_length] at hxs
      obtain ⟨px, cx, rfl⟩ := hxs
      have HROW := Lib.hid hrow; have HB := Lib.hid hB; have HLT := Lib.hid hlt
      clear hrow hB hSQ hk hlt
      go_wp2_with fail
      refine HSQ.out.mono ?_
      rintro e w4 ⟨q, c4, rfl, hg1, hg2, hby, hb4⟩
      obtain ⟨W5, hW5⟩ : ∃ W5, W5 = w4.alloc (.cells #[.int .u8 118] 5 (1, 2)) := ⟨_, rfl⟩
      have hb5 : Below w4.heap.size w4 W5 := by rw [hW5]; exact (Below.refl _ _).alloc (Nat.le_refl _) _
      have hz5 : W5.heap.size = w4.heap.size + 1 := by rw [hW5]; simp
      have k5 : Bytes W5 (.slice (some ⟨w4.heap.size, 0, none⟩) 1 1) [118] := bytes_at [118] (by rw [hW5]; exact heap_alloc_new w4 _) rfl rfl (by decide) (by decide)
      have hb45 := hb4.trans (hb5.mono hb4.size)
      have hrow5 := HROW.out.below hb45
      have hlt5 := HROW.out.lt
      obtain ⟨v6, w6, hrun, hrow6, hgr⟩ := hrow5.push (x := sqCh k) (a := .slice (some ⟨q, 0, none⟩) 8 c4) (c := .slice (some ⟨w4.heap.size, 0, none⟩) 1 1) (by rw [sqChs_length]; omega) (Nat.le_trans HB.out.size hb45.size) rfl
        ⟨hby.below hb5, fun j hj => by
          obtain rfl : q = j := by simpa [Value.ownBlock] using hj
          exact ⟨by have := hb5.size; omega, fun e => by have := hlt5 _ e; omega⟩⟩ ⟨k5, fun j hj => by
          obtain rfl : w4.heap.size = j := by simpa [Value.ownBlock] using hj
          exact ⟨by omega, fun e => by have := hlt5 _ e; have := hb4.size; omega⟩⟩
      rw [hz5] at hrun
      have hb6 : Below w3.heap.size w3 w6 := hgr.below (HB.out.trans (hb45.mono HB.out.size)) (Nat.le_trans HB.out.size hb45.size) (fun j hj => by
        obtain ⟨cs, _, ho, _⟩ := HROW.out
        exact (ho.lt j hj).1)
      have HNX : Hid (FwLoop w3 N v6 (.int .i64 (k + 1 : Nat)) w6) := ⟨k + 1, HLT.out, rfl, by rw [sqChs_succ]; exact hrow6, hb6⟩
      rw [hW5] at hrun
      have HRUN := Lib.hid hrun
      clear hg1 hg2 hby hb4 hb5 hz5 k5 hb45 hrow5 hlt5 hrun hrow6 hgr hb6 hW5 HSQ HROW HB
      go_wp2_with (at_builtin; refine Lib.wpList_append_run _ rfl (.tmp 37) (.tmp 43) 62 62 rfl _ _ rfl rfl _ w6 HRUN.out ?_)
      go_roundw
      case rel => exact HNX.out
      case measure => simp [intOf]; have := HLT.out; omega
    · have hkN : k = N := by omega
      subst hkN
      obtain ⟨px, cx, rfl, hrw⟩ := hrow.at_
      have hk1 : 1 ≤ k := by have := HN.out; omega
      have hk9 : k ≤ 1000 := by omega
      have hup : Calls Tryz.prog 23 #[.pointer (some ⟨g, 0, none⟩), .agg #[.int .i64 0, .int .u64 0], .slice px (sqChs k).length cx] wr (GrewTold w1 g b 2 own (sqIts k) wr) := by
        have := update_new (M := 16777216) (HT3.out.stay hB) (by decide) (by decide) hrw (sq_rises hk9) (by rw [sqChs_length]; omega) (fun c hc => by
          obtain ⟨i, -, rfl⟩ := List.mem_map.1 hc
          exact ⟨by show (highOf i 8).length ≤ _; rw [highOf_length]; decide, by show 1 ≤ _; decide⟩) (by rw [sqChs_length]; omega) (by rw [sq_apply, sqIts_length]; omega) (by rw [sq_apply]; exact sq_pw hk9) (by rw [sq_apply]; exact sq_fine k) (by rw [sq_apply, sqIts_length]; simp; omega) (by rw [sq_apply, sqIts_length]; simp; omega)
        rw [sq_apply] at this
        exact this.mono fun e w' hh => grew hh (by decide) (sq_pw hk9) (by rw [sqIts_length]; simp; omega) (by rw [sqIts_length]; simp; omega)
      unfold GrewTold at hup
      rw [sqIts_length, sqChs_length] at hup
      rw [sqChs_length]
      have HUP := Lib.hid hup
      clear hrw
      have hki : ¬ (k : Int) < k := by omega
      clear hrow hB hup hk hlt
      go_wp2_with fail
      refine HUP.out.mono ?_
      rintro e w6 ⟨F, off, h, own4, o4, rfl, ho4, hoff, hm4, ht4, hF, hd⟩
      have hne : ¬ (off = 0 ∧ k = 0) := by omega
      obtain ⟨W7, hW7⟩ : ∃ W7, W7 = w6.alloc (.cells #[.int .i64 off, .int .u64 (k : Nat)] 25) := ⟨_, rfl⟩
      have hb7 : Below w6.heap.size w6 W7 := by rw [hW7]; exact (Below.refl _ _).alloc (Nat.le_refl _) _
      have g7 : W7.heap[w6.heap.size]? = some (.cells #[.int .i64 off, .int .u64 (k : Nat)] 25 (0, 0)) := by rw [hW7]; exact heap_alloc_new w6 _
      have HNN : Hid (∀ j, w6.heap.size ≤ j → own4 j = none) := fun j hj => ht4.disk.new_none hj
      have HT7 := Lib.hid (ht4.stay hb7)
      have hlen : (sqIts k).length = k := sqIts_length k
      have HO4 : Hid (o4 ≤ 2000) := by unfold Hid; omega
      -- what is asked of a later world
      have HRF : Hid (∀ Wx, Steps own4 own4 W7 Wx → Wx.heap[w6.heap.size]? = some (.cells #[.int .i64 off, .int .u64 (k : Nat)] 25 (0, 0))) := fun Wx hx => (hx.block _ (Array.getElem?_eq_some_iff.1 g7).1 (.inl (HNN.out _ (Nat.le_refl _)))).trans g7
      have HSA := Lib.hid (fun (Wx : World) => seq_any a (by omega) Wx)
      have hsb := fun (Wx : World) => seq_any (a + 1) (by omega) Wx
      rw [show ((a + 1 : Nat) : Int) = (a : Int) + 1 by omega] at hsb
      have HSB := Lib.hid hsb
      clear hsb
      unfold SqTold at HSA HSB
      have HL4 : Hid (o4 ≤ 1000000) := by unfold Hid; omega
      have HAA : Hid (a ≤ 1000 ∧ a + 1 ≤ 1000) := ⟨by omega, by omega⟩
      have HBT : Hid (∀ Wx o' q c, w6.heap.size ≤ q → Tf F w1 g b o' own4 Wx → o' ≤ 1000000 → ∀ i, Bytes Wx (.slice (some ⟨q, 0, none⟩) 8 c) (highOf i 8) → i ≤ 1000 → Calls Tryz.prog 29 #[.pointer (some ⟨g, 0, none⟩), .agg #[.int .i64 off, .int .u64 (k : Nat)], .slice (some ⟨q, 0, none⟩) 8 c, .slice none 0 0] Wx (RkTold F w1 g b o' own4 (k - i) k Wx)) := fun Wx o' q c hq ht ho i hby hi => by
        have := rkBetween_any ht hF hne hd (by rw [hlen]; omega) (by rw [hlen]; omega) (fr := highOf i 8) (to := []) (fun W' hW' => ⟨bytes_steps hby hW' (fun j hj => HNN.out j (own_slot hj ▸ hq)), Bytes.nil W'⟩)
        rw [show decide (([] : List Nat).length = 0) = true from rfl, sq_count_from hi k (by omega), hlen] at this
        exact this
      have HBO : Hid (∀ Wx o' q c q' c', w6.heap.size ≤ q → w6.heap.size ≤ q' → Tf F w1 g b o' own4 Wx → o' ≤ 1000000 → Bytes Wx (.slice (some ⟨q, 0, none⟩) 8 c) (highOf a 8) → Bytes Wx (.slice (some ⟨q', 0, none⟩) 8 c') (highOf (a + 1) 8) → Calls Tryz.prog 29 #[.pointer (some ⟨g, 0, none⟩), .agg #[.int .i64 off, .int .u64 (k : Nat)], .slice (some ⟨q, 0, none⟩) 8 c, .slice (some ⟨q', 0, none⟩) 8 c'] Wx (RkTold F w1 g b o' own4 (if a < k then 1 else 0) k Wx)) := fun Wx o' q c q' c' hq hq' ht ho hby hby' => by
        have := rkBetween_any ht hF hne hd (by rw [hlen]; omega) (by rw [hlen]; omega) (fun W' hW' => ⟨bytes_steps hby hW' (fun j hj => HNN.out j (own_slot hj ▸ hq)), bytes_steps hby' hW' (fun j hj => HNN.out j (own_slot hj ▸ hq'))⟩)
        rw [highOf_length, show decide (8 = 0) = false from rfl, sq_count_one (by omega) k (by omega), hlen] at this
        exact this
      have HZ7 : Hid (w6.heap.size ≤ W7.heap.size) := hb7.size
      have HB7' : Hid (Below w.heap.size w w1) := HB1.out
      have HW7 := Lib.hid hW7
      have HA := Lib.hid ha
      have hwb : IntKind.i64.wrap ((a : Int) + 1) = (a : Int) + 1 := by rw [IntKind.wrap_i64]; omega
      have hwa : IntKind.i64.wrap (a : Int) = a := by rw [IntKind.wrap_i64]; omega
      clear ho4 hoff hm4 ht4 hF hd hne hb7 g7 hlen hW7 hcv HUP HT3 HB1
      go_wp2_with fail
      rw [← HW7.out]
      apply share
      · intro HTT
        have HD : Hid (Below W7.heap.size W7 W7.drew) := (Below.refl _ _).drew
        have hrd := HRF.out _ (Steps.of_below HD.out)
        have r0 := cells_of hrd 0; have r1 := cells_of hrd 1
        simp only [List.getElem?_toArray, List.getElem?_cons_zero, List.getElem?_cons_succ] at r0 r1
        clear hrd
        go_region_law (first
          | (go_simp; go_at_call 22; (with_reducible refine (HSA.out _).mono ?_); rintro e8 w8 ⟨q8, c8, rfl, hg81, hg82, hby8, hb8⟩
             have HB8 := Lib.hid (HD.out.trans (hb8.mono HD.out.size))
             have hr8 := HRF.out _ (Steps.of_below HB8.out)
             have t0 := cells_of hr8 0; have t1 := cells_of hr8 1
             simp only [List.getElem?_toArray, List.getElem?_cons_zero, List.getElem?_cons_succ] at t0 t1
             have HG8 : Hid (w6.heap.size ≤ q8) := Nat.le_trans HZ7.out (Nat.le_trans HD.out.size hg81)
             have HY8 := Lib.hid hby8
             clear hg81 hg82 hby8 hb8 hr8)
          | (go_simp; go_at_call 29; (with_reducible refine (HBT.out _ _ _ _ HG8.out (HT7.out.stay HB8.out) HL4.out a HY8.out HAA.out.1).mono ?_); rintro e9 w9 ⟨o9, h91, h92, hs9, ht9, rfl⟩
             have HS9 := Lib.hid ((Steps.of_below HB8.out).trans hs9); have HT9 := Lib.hid ht9; have HO9 : Hid (o9 ≤ o4 + 2 * k) := h92
             clear h91 h92 hs9 ht9))
        all_goals
          clear r0 r1 t0 t1 HB8 HY8 HG8 HD w8
          revert HS9 HT9 HO9
          revert o9 w9 c8 q8
          exact HTT
      · intro q8 c8 w9 o9 HS9 HT9 HO9
        have HL9 : Hid (o9 ≤ 1000000) := by have h1 := HO9.out; have h2 := HO4.out; unfold Hid; omega
        have HZ9 : Hid (w6.heap.size ≤ w9.heap.size) := Nat.le_trans HZ7.out HS9.out.size
        go_wp2_with fail
        apply share
        · intro HTT
          have HD : Hid (Below w9.heap.size w9 w9.drew) := (Below.refl _ _).drew
          have hrd := HRF.out _ (HS9.out.trans (Steps.of_below HD.out))
          have r0 := cells_of hrd 0; have r1 := cells_of hrd 1
          simp only [List.getElem?_toArray, List.getElem?_cons_zero, List.getElem?_cons_succ] at r0 r1
          clear hrd
          go_region_law (first
            | (go_simp; go_at_call 22; (with_reducible refine (HSB.out _).mono ?_); rintro e8 w8 ⟨q8, c8, rfl, hg81, hg82, hby8, hb8⟩
               have HB8 := Lib.hid (HD.out.trans (hb8.mono HD.out.size))
               have hr8 := HRF.out _ (HS9.out.trans (Steps.of_below HB8.out))
               have t0 := cells_of hr8 0; have t1 := cells_of hr8 1
               simp only [List.getElem?_toArray, List.getElem?_cons_zero, List.getElem?_cons_succ] at t0 t1
               have HG8 : Hid (w6.heap.size ≤ q8) := Nat.le_trans HZ9.out (Nat.le_trans HD.out.size hg81)
               have HY8 := Lib.hid hby8
               clear hg81 hg82 hby8 hb8 hr8)
            | (go_simp; go_at_call 29; (with_reducible refine (HBT.out _ _ _ _ HG8.out (HT9.out.stay HB8.out) HL9.out (a + 1) HY8.out HAA.out.2).mono ?_); rintro e10 w10 ⟨o10, h91, h92, hs9, ht9, rfl⟩
               have HS10 := Lib.hid (HS9.out.trans ((Steps.of_below HB8.out).trans hs9)); have HT10 := Lib.hid ht9; have HO10 : Hid (o10 ≤ o9 + 2 * k) := h92
               clear h91 h92 hs9 ht9))
          all_goals
            clear r0 r1 t0 t1 HB8 HY8 HG8 HD w8
            revert HS10 HT10 HO10
            revert o10 w10 c8 q8
            exact HTT
        · intro x8 y8 w10 o10 HS10 HT10 HO10
          have HL10 : Hid (o10 ≤ 1000000) := by have h0 := HO10.out; have h1 := HO9.out; have h2 := HO4.out; unfold Hid; omega
          have HZ10 : Hid (w6.heap.size ≤ w10.heap.size) := Nat.le_trans HZ7.out HS10.out.size
          clear HS9 HT9 HZ9 HL9
          clear HO10 HO9
          go_wp2_with fail
          apply share
          · intro HTT
            have HD : Hid (Below w10.heap.size w10 w10.drew) := (Below.refl _ _).drew
            have hrd := HRF.out _ (HS10.out.trans (Steps.of_below HD.out))
            have r0 := cells_of hrd 0; have r1 := cells_of hrd 1
            simp only [List.getElem?_toArray, List.getElem?_cons_zero, List.getElem?_cons_succ] at r0 r1
            clear hrd
            go_region_law (first
              | (go_simp; go_at_call 22; (with_reducible refine (HSA.out w10.drew).mono ?_); rintro e7 w7 ⟨q7, c7, rfl, hg71, hg72, hby7, hb7⟩
                 have HB7 := Lib.hid (HD.out.trans (hb7.mono HD.out.size))
                 have hr7 := HRF.out _ (HS10.out.trans (Steps.of_below HB7.out))
                 have s0 := cells_of hr7 0; have s1 := cells_of hr7 1
                 simp only [List.getElem?_toArray, List.getElem?_cons_zero, List.getElem?_cons_succ] at s0 s1
                 have HG7 : Hid (w6.heap.size ≤ q7) := Nat.le_trans HZ10.out (Nat.le_trans HD.out.size hg71)
                 have HY7 : Hid (∀ Wx, Below w7.heap.size w7 Wx → Bytes Wx (.slice (some ⟨q7, 0, none⟩) 8 c7) (highOf a 8)) := fun Wx hx => hby7.below hx
                 clear hg71 hg72 hby7 hb7 hr7)
              | (go_simp; go_at_call 22; (with_reducible refine (HSB.out w10.drew).mono ?_); rintro e7 w7 ⟨q7, c7, rfl, hg71, hg72, hby7, hb7⟩
                 have HB7 := Lib.hid (HD.out.trans (hb7.mono HD.out.size))
                 have hr7 := HRF.out _ (HS10.out.trans (Steps.of_below HB7.out))
                 have s0 := cells_of hr7 0; have s1 := cells_of hr7 1
                 simp only [List.getElem?_toArray, List.getElem?_cons_zero, List.getElem?_cons_succ] at s0 s1
                 have HG7 : Hid (w6.heap.size ≤ q7) := Nat.le_trans HZ10.out (Nat.le_trans HD.out.size hg71)
                 have HY7 : Hid (∀ Wx, Below w7.heap.size w7 Wx → Bytes Wx (.slice (some ⟨q7, 0, none⟩) 8 c7) (highOf (a + 1) 8)) := fun Wx hx => hby7.below hx
                 clear hg71 hg72 hby7 hb7 hr7)
              | (go_simp; go_at_call 22; (with_reducible refine (HSB.out w7).mono ?_); rintro e8 w8 ⟨q8, c8, rfl, hg81, hg82, hby8, hb8⟩
                 have HB8 := Lib.hid (HB7.out.trans (hb8.mono HB7.out.size))
                 have hr8 := HRF.out _ (HS10.out.trans (Steps.of_below HB8.out))
                 have t0 := cells_of hr8 0; have t1 := cells_of hr8 1
                 simp only [List.getElem?_toArray, List.getElem?_cons_zero, List.getElem?_cons_succ] at t0 t1
                 have HG8 : Hid (w6.heap.size ≤ q8) := Nat.le_trans HZ10.out (Nat.le_trans HB7.out.size hg81)
                 have HY8 := Lib.hid hby8
                 have HX8 := Lib.hid (HY7.out w8 hb8)
                 clear hg81 hg82 hby8 hb8 hr8)
              | (go_simp; go_at_call 22; (with_reducible refine (HSA.out w7).mono ?_); rintro e8 w8 ⟨q8, c8, rfl, hg81, hg82, hby8, hb8⟩
                 have HB8 := Lib.hid (HB7.out.trans (hb8.mono HB7.out.size))
                 have hr8 := HRF.out _ (HS10.out.trans (Steps.of_below HB8.out))
                 have t0 := cells_of hr8 0; have t1 := cells_of hr8 1
                 simp only [List.getElem?_toArray, List.getElem?_cons_zero, List.getElem?_cons_succ] at t0 t1
                 have HG8 : Hid (w6.heap.size ≤ q8) := Nat.le_trans HZ10.out (Nat.le_trans HB7.out.size hg81)
                 have HY8 := Lib.hid hby8
                 have HX8 := Lib.hid (HY7.out w8 hb8)
                 clear hg81 hg82 hby8 hb8 hr8)
              | (go_simp; go_at_call 29
                 first
                   | with_reducible refine (HBO.out _ _ _ _ _ _ HG7.out HG8.out (HT10.out.stay HB8.out) HL10.out HX8.out HY8.out).mono ?_
                   | with_reducible refine (HBO.out _ _ _ _ _ _ HG8.out HG7.out (HT10.out.stay HB8.out) HL10.out HY8.out HX8.out).mono ?_
                 rintro e11 w11 ⟨o11, -, -, -, ht11, rfl⟩
                 have HBW : Hid (Below w.heap.size w w11) := HB7'.out.trans (ht11.disk.below.mono HB7'.out.size)
                 clear ht11))
            all_goals
              clear r0 r1 s0 s1 t0 t1 HB8 HY8 HX8 HG8 w8 HB7 HY7 HG7 w7 HD o11
              revert HBW
              revert w11 c8 q8 c7 q7
              first
                | exact HTT
                | exact fun q7 c7 q8 c8 w11 HBW => HTT q8 c8 q7 c7 w11 HBW
          · intro z7 t7 z8 t8 w11 HBW
            clear HSA HSB HBT HBO HRF HS10 HT10 HL10 HL4 HZ10 HZ7 HO4 HT7 HNN HW7
            have ha8 := HA.out
            by_cases hak : a < k
            · rw [if_pos hak]
              obtain ⟨X, hX⟩ : ∃ X, X = k - a := ⟨_, rfl⟩
              obtain ⟨Y, hY⟩ : ∃ Y, Y = k - (a + 1) := ⟨_, rfl⟩
              rw [← hX, ← hY]
              have h1 : (a : Int) < k := by omega
              have h2 : IntKind.i64.wrap ((k : Int) - (a : Int)) = X := by rw [IntKind.wrap_i64]; omega
              have h3 : max (X : Int) 0 = X := by omega
              have h4 : IntKind.u64.wrap (X : Int) = X := by rw [IntKind.wrap_u64]; omega
              have h5 : IntKind.u64.wrap ((X : Int) - (Y : Int)) = 1 := by rw [IntKind.wrap_u64]; omega
              have h6 : ((1 : Nat) : Int) = 1 := rfl
              clear hX hY ha8 HA hN9 ha9 hn9 hki hk1 hk9 hak
              go_wp2
              go_ret
              exact ⟨rfl, HBW.out⟩
            · rw [if_neg hak]
              have hx : k - a = 0 := by omega
              have hy : k - (a + 1) = 0 := by omega
              rw [hx, hy]
              have h1 : ¬ (a : Int) < k := by omega
              obtain ⟨D, hD⟩ : ∃ D, D = IntKind.i64.wrap ((k : Int) - (a : Int)) := ⟨_, rfl⟩
              have h2 : IntKind.i64.wrap ((k : Int) - (a : Int)) = D := hD.symm
              have h3 : max D 0 = 0 := by rw [hD, IntKind.wrap_i64]; omega
              have h4 : IntKind.u64.wrap (0 : Int) = 0 := by rw [IntKind.wrap_u64]; rfl
              have h6 : ((0 : Nat) : Int) = 0 := rfl
              clear hx hy hD ha8 HA hN9 ha9 hn9 hki hk1 hk9 hak
              go_wp2
              all_goals
                go_ret
                exact ⟨rfl, HBW.out⟩
end Go.Proofs.YtlagllhhahomlaaGreat.Sl.Nd
