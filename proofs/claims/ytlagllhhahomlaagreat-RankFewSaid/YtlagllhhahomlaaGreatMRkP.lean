/- Trees in bytes that grow: what was laid is read as it was; a node that is laid behind all is read; a node over trees is a tree over their items. -/
import Derived.Test.YtlagllhhahomlaaGreatMHdP
namespace Go.By
open Go
theorem bodyLen_more {l : List Nat} (m : List Nat) (h : 4 ≤ l.length) : bodyLen (l ++ m) = bodyLen l := by
  unfold bodyLen
  rw [pc_left (by omega)]
theorem isRec_len {l : List Nat} (h : isRec l = true) : 9 + bodyLen l ≤ l.length := by
  simp only [isRec, partOk, Bool.and_eq_true, decide_eq_true_eq] at h
  exact h.2.1
theorem isRec_more {l : List Nat} (m : List Nat) (h : isRec l = true) : isRec (l ++ m) = true := by
  have hl := isRec_len h
  have hb := bodyLen_more (l := l) m (by omega)
  simp only [isRec, partOk, Bool.and_eq_true, decide_eq_true_eq, beq_iff_eq, hb, List.length_append] at h ⊢
  obtain ⟨⟨⟨⟨h1, h2⟩, h3⟩, h4⟩, h5, h6⟩ := h
  refine ⟨⟨⟨⟨by omega, h2⟩, by omega⟩, by omega⟩, by omega, ?_⟩
  rw [pc_left (by omega), h6, List.take_append_of_le_length (by omega)]
theorem nodeOf_more {l : List Nat} {ct : Nat} {n : Nd} (m : List Nat) (h : nodeOf l ct = some n) : nodeOf (l ++ m) ct = some n := by
  unfold nodeOf at h ⊢
  split at h
  · rename_i hc
    have hl := isRec_len hc.1
    have hb := bodyLen_more (l := l) m (by omega)
    have hk : atB (l ++ m) 4 = atB l 4 := by
      unfold atB
      simp only [List.getD]
      rw [List.getElem?_append_left (by omega)]
    rw [if_pos ⟨isRec_more m hc.1, by rw [hk]; exact hc.2⟩, hb, pc_left (by omega)]
    exact h
  · cases h
theorem nodeIn_more {K : List Nat} {off : Int} {ct : Nat} {n : Nd} (m : List Nat) (h : nodeIn K off ct = some n) : nodeIn (K ++ m) off ct = some n := by
  obtain ⟨h1, h2, h3⟩ := nodeIn_some h
  unfold nodeIn
  rw [if_neg (by rw [List.length_append]; omega), List.drop_append_of_le_length (by omega)]
  exact nodeOf_more m h3
theorem nodeIn_new {K : List Nat} {n : Nd} (m : List Nat) (hK : 256 ≤ K.length) (hf : NdFine n) (hm : mayNd n = true) : nodeIn (K ++ (recOf 2 (ndOf n) ++ m)) (K.length : Nat) (cntN n) = some n := by
  have hb := ndOf_length hm
  have hs := ndOf_small hf hm
  unfold nodeIn
  rw [if_neg (by simp only [List.length_append, recOf_length]; omega)]
  have e : (((K.length : Nat) : Int)).toNat = K.length := by omega
  rw [e, List.drop_left]
  unfold nodeOf
  rw [if_pos ⟨isRec_rec (by decide) (by omega) hs, kind_rec _ _ _⟩, bodyLen_rec _ _ _ (by omega), body_rec, takeNd_put hf hm]
  simp
theorem kidsT_mono {rec rec' : NKd → Option (List NIt × Nat)} : ∀ {xs : List (List Nat × NKd)} {all : List NIt} {d : Nat} {x : List NIt × Nat}, (∀ d y, rec d = some y → rec' d = some y) → kidsT rec xs all d = some x → kidsT rec' xs all d = some x
  | [], _, _, _, _, h => h
  | (k, kd) :: r, all, d, x, hr, h => by
    unfold kidsT at h ⊢
    cases h1 : rec kd with
    | none => rw [h1] at h; cases h
    | some y =>
      rw [h1] at h
      rw [hr _ _ h1]
      dsimp only at h ⊢
      split at h
      · rename_i hc
        rw [if_pos hc]
        exact kidsT_mono hr h
      · cases h
theorem docT_more {K : List Nat} (m : List Nat) : ∀ {f : Nat} {off : Int} {ct : Nat} {root : Bool} {x : List NIt × Nat}, docT K f off ct root = some x → docT (K ++ m) f off ct root = some x
  | 0, _, _, _, _, h => by cases h
  | f + 1, off, ct, root, x, h => by
    unfold docT at h ⊢
    cases hn : nodeIn K off ct with
    | none => rw [hn] at h; cases h
    | some n =>
      rw [hn] at h
      rw [nodeIn_more m hn]
      dsimp only at h ⊢
      split at h
      · cases h
      · rename_i hc
        rw [if_neg hc]
        split at h
        · rename_i hl
          rw [if_pos hl]
          exact h
        · rename_i hl
          rw [if_neg hl]
          exact kidsT_mono (fun d y hy => docT_more m hy) h
theorem docT_leaf {K : List Nat} {f : Nat} {off : Int} {ct : Nat} {root : Bool} {n : Nd} (h : nodeIn K off ct = some n) (hl : n.leaf = true) (hr : root = true ∨ 4 ≤ n.its.length) : docT K (f + 1) off ct root = some (n.its, 1) := by
  unfold docT
  rw [h]
  dsimp only
  have hk : (keysN n).length = n.its.length := by unfold keysN; rw [if_pos hl, List.length_map]
  rw [if_neg (by rw [hk]; rcases hr with rfl | hr <;> simp; omega), if_pos hl]
structure Beside (rec : NKd → Option (List NIt × Nat)) (xs : List (List Nat × NKd)) (ls : List (List NIt)) (h : Nat) : Prop where
  len : xs.length = ls.length
  told : ∀ i (hi : i < xs.length) (hi' : i < ls.length), rec xs[i].2 = some (ls[i], h) ∧ ls[i].head?.map (·.k) = some xs[i].1
theorem kidsT_beside {rec : NKd → Option (List NIt × Nat)} {h : Nat} : ∀ {xs : List (List Nat × NKd)} {ls : List (List NIt)} {all : List NIt} {d : Nat}, Beside rec xs ls h → (all ++ ls.flatten).Pairwise BelowIt → (all ≠ [] → d = h) → (xs = [] → d = h) → kidsT rec xs all d = some (all ++ ls.flatten, h + 1)
  | [], ls, all, d, hb, _, _, hd => by
    have := hb.len
    have : ls = [] := List.eq_nil_of_length_eq_zero (by simpa using this.symm)
    subst this
    unfold kidsT
    rw [hd rfl]
    simp
  | (k, kd) :: r, [], all, d, hb, _, _, _ => by have := hb.len; simp at this
  | (k, kd) :: r, l :: ls, all, d, hb, hp, ha, _ => by
    obtain ⟨h1, h2⟩ := hb.told 0 (by simp) (by simp)
    simp only [List.getElem_cons_zero] at h1 h2
    unfold kidsT
    rw [h1]
    dsimp only
    cases l with
    | nil => cases h2
    | cons i l =>
      simp only [List.head?_cons, Option.map_some, Option.some.injEq] at h2
      have hok : okKid k (i :: l) h all d = true := by
        unfold okKid
        simp only [List.head?_cons, Bool.and_eq_true, Bool.or_eq_true, decide_eq_true_eq]
        refine ⟨h2, ?_, ?_⟩
        · by_cases he : all = []
          · exact .inl (by rw [he]; rfl)
          · exact .inr (ha he).symm
        · cases hg : all.getLast? with
          | none => rfl
          | some j =>
            have hj : j ∈ all := List.mem_of_getLast? hg
            exact (List.pairwise_append.1 hp).2.2 j hj i (by simp)
      rw [if_pos hok]
      have hp' : ((all ++ (i :: l)) ++ ls.flatten).Pairwise BelowIt := by simpa using hp
      have := kidsT_beside (rec := rec) (h := h) (xs := r) (ls := ls) (all := all ++ (i :: l)) (d := h) ⟨by simpa using hb.len, fun j hj hj' => by
        have := hb.told (j + 1) (by simpa using hj) (by simpa using hj')
        simpa using this⟩ hp' (fun _ => rfl) (fun _ => rfl)
      rw [this]
      simp
theorem docT_inner {K : List Nat} {f : Nat} {off : Int} {ct h : Nat} {root : Bool} {n : Nd} {ls : List (List NIt)} (hn : nodeIn K off ct = some n) (hl : n.leaf = false) (hr : root = true ∨ 4 ≤ n.ks.length)
    (hb : Beside (fun d => docT K f d.off d.ct false) (n.ks.zip n.kids) ls h) (hp : ls.flatten.Pairwise BelowIt) (h0 : ls ≠ []) : docT K (f + 1) off ct root = some (ls.flatten, h + 1) := by
  unfold docT
  rw [hn]
  dsimp only
  have hk : (keysN n).length = n.ks.length := by unfold keysN; rw [hl]; rfl
  rw [if_neg (by rw [hk]; rcases hr with rfl | hr <;> simp; omega), if_neg (by rw [hl]; decide)]
  have := kidsT_beside (all := []) (d := 0) hb (by simpa using hp) (fun h => absurd rfl h) (fun he => by
    have := hb.len
    rw [he] at this
    exact absurd (List.eq_nil_of_length_eq_zero (by simpa using this.symm)) h0)
  simpa using this
end Go.By
/- Ranks: keys between two bounds, of a tree as it lies, kid by kid. -/
namespace Go.By
open Go Go.RowKit
def endS (to : List Nat) (op : Bool) (k : List Nat) : Bool := op || lessN k to
def inS (fr to : List Nat) (op : Bool) (k : List Nat) : Bool := !lessN k fr && endS to op k
def cntS (fr to : List Nat) (op : Bool) (l : List NIt) : Nat := l.countP (fun i => inS fr to op i.k)
def meetS (fr to : List Nat) (op : Bool) (least bound : List Nat) : Bool := endS to op least && isLow fr bound
def holdS (fr to : List Nat) (op : Bool) (least bound : List Nat) : Bool := !lessN least fr && (op || !isLow to bound)
theorem cntS_app (fr to : List Nat) (op : Bool) (a b : List NIt) : cntS fr to op (a ++ b) = cntS fr to op a + cntS fr to op b := List.countP_append ..
theorem cntS_le (fr to : List Nat) (op : Bool) (l : List NIt) : cntS fr to op l ≤ l.length := List.countP_le_length
theorem cntS_nil (fr to : List Nat) (op : Bool) : cntS fr to op [] = 0 := rfl
theorem cntS_one (fr to : List Nat) (op : Bool) (i : NIt) : cntS fr to op [i] = if inS fr to op i.k = true then 1 else 0 := by
  unfold cntS
  rw [List.countP_cons, List.countP_nil, Nat.zero_add]
theorem kid_all {l : List NIt} {least bound : List Nat} (hp : l.Pairwise BelowIt) (hh : ∃ i, l.head? = some i ∧ i.k = least) (hu : ub l bound) : ∀ i ∈ l, lessN i.k least = false ∧ (bound = [] ∨ lessN i.k bound = true) := by
  intro i hi
  constructor
  · obtain ⟨j, hj, rfl⟩ := hh
    cases l with
    | nil => cases hi
    | cons x r =>
      cases hj
      rcases List.mem_cons.1 hi with rfl | hi
      · cases h : lessN i.k i.k with
        | false => rfl
        | true => exact absurd rfl (lessN_ne h)
      · exact lessN_asymm ((List.pairwise_cons.1 hp).1 i hi)
  · rcases hu with hu | hu
    · exact .inl hu
    · have hne : l ≠ [] := by rintro rfl; cases hi
      have hl := List.getLast?_eq_some_getLast hne
      rcases last_max hp hl hi with h | h
      · rw [h]; exact .inr (hu _ hl)
      · exact .inr (lessN_trans h (hu _ hl))
theorem lessN_le2 {x y z : List Nat} (h : lessN y x = false) (h2 : lessN z x = true) : lessN z y = true := by
  rcases lessN_tri x y with h3 | h3 | h3
  · exact lessN_trans h2 h3
  · rw [← h3]; exact h2
  · rw [h3] at h; cases h
theorem hold_all {fr to : List Nat} {op : Bool} {l : List NIt} {least bound : List Nat} (hp : l.Pairwise BelowIt) (hh : ∃ i, l.head? = some i ∧ i.k = least) (hu : ub l bound) (h : holdS fr to op least bound = true) : cntS fr to op l = l.length := by
  unfold cntS
  rw [List.countP_eq_length]
  intro i hi
  obtain ⟨h1, h2⟩ := kid_all hp hh hu i hi
  unfold holdS at h
  rw [Bool.and_eq_true, Bool.not_eq_true', Bool.or_eq_true, Bool.not_eq_true'] at h
  obtain ⟨h3, h4⟩ := h
  unfold inS endS
  have e1 : lessN i.k fr = false := by
    cases hx : lessN i.k fr with
    | false => rfl
    | true => rw [lessN_le h1 hx] at h3; cases h3
  rw [e1]
  rcases h4 with h4 | h4
  · rw [h4]; rfl
  · have e2 : lessN i.k to = true := by
      unfold isLow at h4
      rw [Bool.or_eq_false_iff] at h4
      obtain ⟨h5, h6⟩ := h4
      rcases h2 with h2 | h2
      · rw [h2] at h5; cases h5
      · exact lessN_le2 h6 h2
    rw [e2]
    cases op <;> rfl
theorem meet_none {fr to : List Nat} {op : Bool} {l : List NIt} {least bound : List Nat} (hp : l.Pairwise BelowIt) (hh : ∃ i, l.head? = some i ∧ i.k = least) (hu : ub l bound) (h : meetS fr to op least bound = false) : cntS fr to op l = 0 := by
  unfold cntS
  rw [List.countP_eq_zero]
  intro i hi
  obtain ⟨h1, h2⟩ := kid_all hp hh hu i hi
  unfold meetS at h
  rw [Bool.and_eq_false_iff] at h
  unfold inS
  rcases h with h | h
  · unfold endS at h
    rw [Bool.or_eq_false_iff] at h
    obtain ⟨h3, h4⟩ := h
    have e : lessN i.k to = false := by
      cases hx : lessN i.k to with
      | false => rfl
      | true => rw [lessN_le h1 hx] at h4; cases h4
    unfold endS
    rw [h3, e]
    simp
  · unfold isLow at h
    rw [Bool.or_eq_false_iff] at h
    obtain ⟨h5, h6⟩ := h
    have e : lessN i.k fr = true := by
      rcases h2 with h2 | h2
      · rw [h2] at h5; cases h5
      · exact lessN_le2 h6 h2
    rw [e]
    simp
theorem kids_parts {rec : NKd → Option (List NIt × Nat)} (hlow : ∀ d l h, rec d = some (l, h) → l ≠ []) (bound : List Nat) :
    ∀ (xs : List (List Nat × NKd)) (all : List NIt) (d : Nat) (l : List NIt) (H : Nat), kidsT rec xs all d = some (l, H) → ub l bound →
      ub all (nxt xs bound) ∧ (all ≠ [] → H = d + 1) ∧ ∃ ls : List (List NIt), ls.length = xs.length ∧ l = all ++ ls.flatten ∧ ∀ i (hi : i < xs.length) (hi' : i < ls.length), (∃ h, h + 1 = H ∧ rec xs[i].2 = some (ls[i], h)) ∧ (∃ x, ls[i].head? = some x ∧ x.k = xs[i].1) ∧ ub ls[i] (nxt (xs.drop (i + 1)) bound)
  | [], all, d, l, H, h, hu => by
    cases h
    exact ⟨hu, fun _ => rfl, [], rfl, by simp, fun i hi => absurd hi (Nat.not_lt_zero _)⟩
  | (k, kd) :: r, all, d, l, H, h, hu => by
    unfold kidsT at h
    cases hk : rec kd with
    | none => rw [hk] at h; cases h
    | some x =>
      obtain ⟨l1, h1⟩ := x
      rw [hk] at h
      dsimp only at h
      split at h
      · rename_i hok
        obtain ⟨i, e1, e2, e3, e4⟩ := okKid_iff.1 hok
        have g2 := hlow _ _ _ hk
        obtain ⟨q1, q2, ls, q3, q4, q5⟩ := kids_parts hlow bound r (all ++ l1) h1 l H h hu
        have hne2 : all ++ l1 ≠ [] := by simp [g2]
        have hH := q2 hne2
        refine ⟨.inr (fun j hj => by show lessN j.k k = true; rw [← e2]; exact e4 j hj), fun ha => ?_, l1 :: ls, by simp [q3], by rw [q4]; simp, fun j hj hj' => ?_⟩
        · rcases e3 with e3 | e3
          · exact absurd e3 ha
          · omega
        · cases j with
          | zero => exact ⟨⟨h1, by omega, hk⟩, ⟨i, e1, e2⟩, by
              show ub l1 (nxt r bound)
              exact (ub_app g2).1 q1⟩
          | succ j =>
            have := q5 j (by simpa using hj) (by simpa using hj')
            simpa using this
      · cases h
def nextS (ks : List (List Nat)) (i : Nat) (bound : List Nat) : List Nat := if h : i + 1 < ks.length then ks[i + 1] else bound
theorem nxt_zip {ks : List (List Nat)} {kids : List NKd} (hl : ks.length = kids.length) (bound : List Nat) (i : Nat) : nxt ((ks.zip kids).drop (i + 1)) bound = nextS ks i bound := by
  unfold nxt nextS
  by_cases h : i + 1 < ks.length
  · rw [dif_pos h, List.drop_eq_getElem_cons (by rw [List.length_zip]; omega), List.getElem_zip]
  · rw [dif_neg h, List.drop_eq_nil_of_le (by rw [List.length_zip]; omega)]
structure Lies (K : List Nat) (f : Nat) (off : Int) (ct : Nat) (root : Bool) (least bound : List Nat) (l : List NIt) (h : Nat) : Prop where
  doc : docT K f off ct root = some (l, h)
  head : root = true ∨ ∃ i, l.head? = some i ∧ i.k = least
  ub : ub l bound
  root : root = true → bound = []
theorem Lies.good {K : List Nat} (hK : ∀ c ∈ K, c < 256) {f : Nat} {off : Int} {ct : Nat} {root : Bool} {least bound : List Nat} {l : List NIt} {h : Nat} (H : Lies K f off ct root least bound l h) : Good K f ct root l h := docT_good hK _ _ _ _ _ _ H.doc
theorem Lies.node {K : List Nat} (hK : ∀ c ∈ K, c < 256) {f : Nat} {off : Int} {ct : Nat} {root : Bool} {least bound : List Nat} {l : List NIt} {h : Nat} (H : Lies K (f + 1) off ct root least bound l h) :
    ∃ n, nodeIn K off ct = some n ∧ keeps n root least bound = true ∧ ((n.leaf = true ∧ l = n.its) ∨ (n.leaf = false ∧ ∃ ls : List (List NIt), ls.length = n.kids.length ∧ l = ls.flatten ∧
      ∀ i (hi : i < n.kids.length) (hi' : i < ls.length) (hk : i < n.ks.length), ∃ h', Lies K f n.kids[i].off n.kids[i].ct false n.ks[i] (nextS n.ks i bound) ls[i] h')) := by
  have hc := (chkT_iff hK (f + 1) off ct root least bound h H.root).2 ⟨l, H.doc, H.head, H.ub⟩
  have hd := H.doc
  unfold chkT at hc
  unfold docT at hd
  cases hn : nodeIn K off ct with
  | none => rw [hn] at hd; cases hd
  | some n =>
    rw [hn] at hc hd
    dsimp only at hc hd
    have hkp : keeps n root least bound = true := by
      cases hx : keeps n root least bound with
      | true => rfl
      | false => rw [if_pos hx] at hc; cases hc
    refine ⟨n, rfl, hkp, ?_⟩
    split at hd
    · cases hd
    · split at hd
      · rename_i hl
        cases hd
        exact .inl ⟨hl, rfl⟩
      · rename_i hl
        have hlf : n.leaf = false := by simpa using hl
        obtain ⟨hm, _, _⟩ := nodeOf_some (nodeIn_some hn).2.2
        obtain ⟨q1, q2, -⟩ := may_in hlf hm
        obtain ⟨-, -, ls, e1, e2, e3⟩ := kids_parts (fun d l h hd => (docT_good hK _ _ _ _ _ _ hd).some) bound _ _ _ _ _ hd H.ub
        have hz : (n.ks.zip n.kids).length = n.kids.length := by rw [List.length_zip]; omega
        refine .inr ⟨hlf, ls, by rw [e1, hz], by simpa using e2, fun i hi hi' hk => ?_⟩
        obtain ⟨⟨h', _, e4⟩, e5, e6⟩ := e3 i (by rw [hz]; exact hi) hi'
        rw [List.getElem_zip] at e4 e5
        rw [nxt_zip q2] at e6
        exact ⟨h', e4, .inr e5, e6, fun h => by cases h⟩
end Go.By
