/- Trees in a file's bytes, plain: which are right, what lies under a key; seen from below, as the document reads them, and from above, as the program does. -/
import Derived.Test.YtajfcnaifegonaaMNdO
namespace Go.By
open Go
theorem lessN_trans : ∀ {x y z : List Nat}, lessN x y = true → lessN y z = true → lessN x z = true
  | _, [], _, h, _ => by rw [lessN_nil_right] at h; cases h
  | _, _ :: _, [], _, h => by rw [lessN_nil_right] at h; cases h
  | [], _ :: _, _ :: _, _, _ => rfl
  | a :: x, b :: y, c :: z, h1, h2 => by
    simp only [lessN, Bool.or_eq_true, Bool.and_eq_true, decide_eq_true_eq] at h1 h2 ⊢
    rcases h1 with h1 | ⟨rfl, h1⟩
    · rcases h2 with h2 | ⟨rfl, h2⟩
      · exact .inl (by omega)
      · exact .inl h1
    · rcases h2 with h2 | ⟨rfl, h2⟩
      · exact .inl h2
      · exact .inr ⟨rfl, lessN_trans h1 h2⟩
theorem lessN_ne {x y : List Nat} (h : lessN x y = true) : x ≠ y := by
  rintro rfl
  rw [lessN_irrefl] at h; cases h
abbrev BelowIt (i j : NIt) : Prop := lessN i.k j.k = true
def keysN (n : Nd) : List (List Nat) := if n.leaf = true then n.its.map (·.k) else n.ks
def sumK : List NKd → Nat
  | [] => 0
  | d :: r => d.ct + sumK r
def cntN (n : Nd) : Nat := if n.leaf = true then n.its.length else sumK n.kids
def nodeOf (l : List Nat) (ct : Nat) : Option Nd :=
  if isRec l = true ∧ atB l 4 = 2 then
    match takeNd (pc l 5 (bodyLen l)) with
    | none => none
    | some n => if cntN n = ct then some n else none
  else none
def nodeIn (K : List Nat) (off : Int) (ct : Nat) : Option Nd :=
  if off < 256 ∨ (K.length : Int) ≤ off then none else nodeOf (K.drop off.toNat) ct
def Has (K k : List Nat) : Prop := ∃ a b, K = a ++ (txt k ++ b)
theorem Has.app {K k : List Nat} (a b : List Nat) (h : Has K k) : Has (a ++ (K ++ b)) k := by
  obtain ⟨x, y, rfl⟩ := h
  exact ⟨a ++ x, y ++ b, by simp⟩
theorem has_its : ∀ {its : List NIt} {i : NIt}, i ∈ its → Has (its.flatMap itOf) i.k
  | j :: r, i, h => by
    rw [List.flatMap_cons]
    rcases List.mem_cons.1 h with rfl | h
    · exact ⟨[], txt i.v ++ r.flatMap itOf, by simp [itOf]⟩
    · have := (has_its h).app (itOf j) []
      simpa using this
theorem pc_split (l : List Nat) (i n : Nat) : ∃ a b, l = a ++ (pc l i n ++ b) := ⟨l.take i, (l.drop i).drop n, by unfold pc; rw [List.take_append_drop, List.take_append_drop]⟩
theorem nodeOf_some {l : List Nat} {ct : Nat} {n : Nd} (h : nodeOf l ct = some n) : mayNd n = true ∧ cntN n = ct ∧ takeNd (pc l 5 (bodyLen l)) = some n := by
  unfold nodeOf at h
  split at h
  · cases ht : takeNd (pc l 5 (bodyLen l)) with
    | none => rw [ht] at h; cases h
    | some m =>
      rw [ht] at h
      dsimp only at h
      split at h
      · rename_i hc
        cases h
        refine ⟨?_, hc, rfl⟩
        have told : ∀ {a : Nd} {s : List Nat}, ndTold a s = some n → mayNd n = true := fun {a s} h => by
          cases s with
          | nil =>
            have h' : (if mayNd a = true then some a else none) = some n := h
            split at h'
            · cases h'; assumption
            · cases h'
          | cons _ _ => cases h
        generalize pc l 5 (bodyLen l) = L at ht
        match L, ht with
        | [], ht => cases ht
        | [_], ht => cases ht
        | k :: c :: r, ht =>
          unfold takeNd at ht
          dsimp only at ht
          split at ht
          · unfold ndBody at ht
            rw [if_pos rfl] at ht
            cases hp : pMany pIt c r with
            | none => rw [hp] at ht; cases ht
            | some x => rw [hp] at ht; exact told ht
          · split at ht
            · unfold ndBody at ht
              rw [if_neg (by decide)] at ht
              cases hp : pMany pKd c r with
              | none => rw [hp] at ht; cases ht
              | some x => rw [hp] at ht; exact told ht
            · cases ht
      · cases h
  · cases h
theorem nodeIn_some {K : List Nat} {off : Int} {ct : Nat} {n : Nd} (h : nodeIn K off ct = some n) : 256 ≤ off ∧ off < K.length ∧ nodeOf (K.drop off.toNat) ct = some n := by
  unfold nodeIn at h
  split at h
  · cases h
  · exact ⟨by omega, by omega, h⟩
theorem nodeIn_its {K : List Nat} {off : Int} {ct : Nat} {n : Nd} (hK : ∀ c ∈ K, c < 256) (h : nodeIn K off ct = some n) {i : NIt} (hi : i ∈ n.its) (hl : n.leaf = true) : Has K i.k := by
  obtain ⟨_, _, h⟩ := nodeIn_some h
  obtain ⟨_, _, h⟩ := nodeOf_some h
  obtain ⟨a, b, e⟩ := pc_split (K.drop off.toNat) 5 (bodyLen (K.drop off.toNat))
  generalize pc (K.drop off.toNat) 5 (bodyLen (K.drop off.toNat)) = L at *
  have e2 := (List.take_append_drop off.toNat K).symm
  rw [e] at e2
  have hL : ∀ c ∈ L, c < 256 := fun c hc => hK c (by rw [e2]; simp [hc])
  obtain ⟨e3, _, _⟩ := takeNd_some hL h
  rw [ndOf_lf hl] at e3
  rw [e2, e3]
  have := ((has_its hi).app [76, n.its.length] [])
  have := this.app (K.take off.toNat ++ a) b
  simpa using this
theorem has_at {K k : List Nat} (h : Has K k) : ∃ p, p < K.length ∧ (K.drop (p + 1)).take (atB K p) = k := by
  obtain ⟨a, b, rfl⟩ := h
  refine ⟨a.length, by simp [txt], ?_⟩
  have h1 : atB (a ++ (txt k ++ b)) a.length = k.length := by
    unfold atB
    simp [txt]
  have h2 : (a ++ (txt k ++ b)).drop (a.length + 1) = k ++ b := by
    rw [← List.drop_drop, List.drop_left]; rfl
  rw [h1, h2, List.take_left]
theorem nodup_len {α : Type} [DecidableEq α] : ∀ {l m : List α}, l.Pairwise (· ≠ ·) → (∀ x ∈ l, x ∈ m) → l.length ≤ m.length
  | [], m, _, _ => Nat.zero_le _
  | x :: l, m, h, hs => by
    have hx : x ∈ m := hs x (List.mem_cons_self)
    rw [List.pairwise_cons] at h
    have := nodup_len (l := l) (m := m.erase x) h.2 (fun y hy => (List.mem_erase_of_ne (fun e => h.1 y hy e.symm)).2 (hs y (List.mem_cons_of_mem _ hy)))
    rw [List.length_erase_of_mem hx] at this
    have := List.length_pos_of_mem hx
    rw [List.length_cons]; omega
theorem has_few {K : List Nat} {l : List NIt} (hp : l.Pairwise BelowIt) (hh : ∀ i ∈ l, Has K i.k) : l.length ≤ K.length := by
  have h1 : (l.map (·.k)).Pairwise (· ≠ ·) := by
    rw [List.pairwise_map]
    exact hp.imp (fun h => lessN_ne h)
  have := nodup_len (m := (List.range K.length).map fun p => (K.drop (p + 1)).take (atB K p)) h1 (fun x hx => by
    obtain ⟨i, hi, rfl⟩ := List.mem_map.1 hx
    obtain ⟨p, hp, e⟩ := has_at (hh i hi)
    exact List.mem_map.2 ⟨p, List.mem_range.2 hp, e⟩)
  simpa using this
/-! From below. -/
def okKid (k : List Nat) (l : List NIt) (h : Nat) (all : List NIt) (d : Nat) : Bool :=
  match l.head? with
  | none => false
  | some i => decide (i.k = k) && ((all.isEmpty || decide (h = d)) && (match all.getLast? with
    | none => true
    | some j => lessN j.k i.k))
def kidsT (rec : NKd → Option (List NIt × Nat)) : List (List Nat × NKd) → List NIt → Nat → Option (List NIt × Nat)
  | [], all, d => some (all, d + 1)
  | (k, kd) :: r, all, d => match rec kd with
    | none => none
    | some (l, h) => if okKid k l h all d = true then kidsT rec r (all ++ l) h else none
def docT (K : List Nat) : Nat → Int → Nat → Bool → Option (List NIt × Nat)
  | 0, _, _, _ => none
  | f + 1, off, ct, root => match nodeIn K off ct with
    | none => none
    | some n => if root = false ∧ (keysN n).length < 4 then none
      else if n.leaf = true then some (n.its, 1)
      else kidsT (fun d => docT K f d.off d.ct false) (n.ks.zip n.kids) [] 0
/-! From above. -/
def isLow (k bound : List Nat) : Bool := bound.isEmpty || lessN k bound
def keeps (n : Nd) (root : Bool) (least bound : List Nat) : Bool :=
  root || (decide (4 ≤ (keysN n).length) && (decide ((keysN n).head? = some least) && isLow ((keysN n).getLast?.getD []) bound))
/-! What lies under a key. -/
/-! Facts. -/
theorem rises_pw : ∀ {ks : List (List Nat)}, risesN ks = true → ks.Pairwise (fun a b => lessN a b = true)
  | [], _ => .nil
  | [_], _ => List.pairwise_singleton _ _
  | a :: b :: r, h => by
    have h' : lessN a b = true ∧ risesN (b :: r) = true := by
      have : (lessN a b && risesN (b :: r)) = true := h
      simpa using this
    have ih := rises_pw h'.2
    rw [List.pairwise_cons]
    refine ⟨fun x hx => ?_, ih⟩
    rcases List.mem_cons.1 hx with rfl | hx
    · exact h'.1
    · exact lessN_trans h'.1 ((List.pairwise_cons.1 ih).1 x hx)
theorem rises_its {n : Nd} (hl : n.leaf = true) (hm : mayNd n = true) : n.its.Pairwise BelowIt := by
  have := rises_pw (may_lf hl hm).2.2.1
  rwa [List.pairwise_map] at this
structure Good (K : List Nat) (f : Nat) (ct : Nat) (root : Bool) (l : List NIt) (h : Nat) : Prop where
  some : l ≠ []
  rise : l.Pairwise BelowIt
  low : 1 ≤ h
  high : h ≤ f
  len : l.length = ct
  many : root = false → 4 ^ h ≤ l.length
  has : ∀ i ∈ l, Has K i.k
  may : ∀ i ∈ l, mayIt i = true
  fine : ∀ i ∈ l, (∀ c ∈ i.k, c < 256) ∧ ∀ c ∈ i.v, c < 256
theorem last_max {l : List NIt} (hp : l.Pairwise BelowIt) {j : NIt} (hj : l.getLast? = some j) {i : NIt} (hi : i ∈ l) : i = j ∨ lessN i.k j.k = true := by
  obtain ⟨m, rfl⟩ : ∃ m, l = m ++ [j] := by
    have hne : l ≠ [] := by rintro rfl; cases hj
    have := List.dropLast_concat_getLast hne
    rw [List.getLast?_eq_some_getLast hne] at hj
    cases hj
    exact ⟨_, this.symm⟩
  rcases List.mem_append.1 hi with h | h
  · exact .inr ((List.pairwise_append.1 hp).2.2 i h j (by simp))
  · exact .inl (by simpa using h)
theorem rise_app {a b : List NIt} (ha : a.Pairwise BelowIt) (hb : b.Pairwise BelowIt) (h : ∀ j, a.getLast? = some j → ∀ i, b.head? = some i → lessN j.k i.k = true) : (a ++ b).Pairwise BelowIt := by
  rw [List.pairwise_append]
  refine ⟨ha, hb, fun x hx y hy => ?_⟩
  have hne : a ≠ [] := by rintro rfl; cases hx
  have hlast := List.getLast?_eq_some_getLast hne
  cases b with
  | nil => cases hy
  | cons z r =>
    have h1 := h _ hlast z rfl
    have h2 : lessN x.k z.k = true := by
      rcases last_max ha hlast hx with rfl | h3
      · exact h1
      · exact lessN_trans h3 h1
    rcases List.mem_cons.1 hy with rfl | hy
    · exact h2
    · exact lessN_trans h2 ((List.pairwise_cons.1 hb).1 y hy)
theorem okKid_iff {k : List Nat} {l : List NIt} {h : Nat} {all : List NIt} {d : Nat} : okKid k l h all d = true ↔ ∃ i, l.head? = some i ∧ i.k = k ∧ (all = [] ∨ h = d) ∧ ∀ j, all.getLast? = some j → lessN j.k i.k = true := by
  unfold okKid
  cases hl : l.head? with
  | none => simp
  | some i =>
    cases ha : all.getLast? with
    | none => simp
    | some j => simp
structure Goods (K : List Nat) (f : Nat) (sum : Nat) (l : List NIt) : Prop where
  rise : l.Pairwise BelowIt
  len : l.length = sum
  has : ∀ i ∈ l, Has K i.k
  may : ∀ i ∈ l, mayIt i = true
  fine : ∀ i ∈ l, (∀ c ∈ i.k, c < 256) ∧ ∀ c ∈ i.v, c < 256
theorem kidsT_good {K : List Nat} {f : Nat} {rec : NKd → Option (List NIt × Nat)} (hr : ∀ d l h, rec d = some (l, h) → Good K f d.ct false l h) :
    ∀ (xs : List (List Nat × NKd)) (all : List NIt) (d sum : Nat) (l : List NIt) (H : Nat), Goods K f sum all → (all ≠ [] → 1 ≤ d ∧ d ≤ f) → (all ≠ [] ∨ xs ≠ []) → kidsT rec xs all d = some (l, H) →
      Goods K f (sum + sumK (xs.map (·.2))) l ∧ all.length + xs.length * 4 ^ (H - 1) ≤ l.length ∧ 2 ≤ H ∧ H ≤ f + 1 ∧ (all ≠ [] → H = d + 1) ∧ (∃ m, l = all ++ m) ∧ (∀ x ∈ xs, ∃ i ∈ l, i.k = x.1) ∧ (all = [] → ∀ x, xs.head? = some x → ∃ i, l.head? = some i ∧ i.k = x.1)
  | [], all, d, sum, l, H, hg, hd, hne, h => by
    cases h
    have h1 : all ≠ [] := by rcases hne with h | h; exact h; exact absurd rfl h
    obtain ⟨h2, h3⟩ := hd h1
    exact ⟨hg, by simp, by omega, by omega, fun _ => rfl, ⟨[], by simp⟩, fun x hx => (by cases hx), fun _ x hx => (by cases hx)⟩
  | (k, kd) :: r, all, d, sum, l, H, hg, hd, hne, h => by
    unfold kidsT at h
    cases hk : rec kd with
    | none => rw [hk] at h; cases h
    | some x =>
      obtain ⟨l1, h1⟩ := x
      rw [hk] at h
      dsimp only at h
      split at h
      · rename_i hok
        obtain ⟨i, e1, e2, e3, e4⟩ := okKid_iff.1 hok
        have g := hr kd l1 h1 hk
        have hg2 : Goods K f (sum + kd.ct) (all ++ l1) := ⟨rise_app hg.rise g.rise (fun j hj i' hi' => by rw [e1] at hi'; cases hi'; exact e4 j hj), by rw [List.length_append, hg.len, g.len],
          fun i hi => (List.mem_append.1 hi).elim (hg.has i) (g.has i), fun i hi => (List.mem_append.1 hi).elim (hg.may i) (g.may i), fun i hi => (List.mem_append.1 hi).elim (hg.fine i) (g.fine i)⟩
        have hne2 : all ++ l1 ≠ [] := by simp [g.some]
        obtain ⟨q1, q2, q3, q4, q5, ⟨m, q6⟩, q7, _⟩ := kidsT_good hr r (all ++ l1) h1 (sum + kd.ct) l H hg2 (fun _ => ⟨g.low, g.high⟩) (.inl hne2) h
        have q5 := q5 hne2
        refine ⟨by rw [List.map_cons, sumK, ← Nat.add_assoc]; exact q1, ?_, q3, q4, fun ha => ?_, ⟨l1 ++ m, by rw [q6, List.append_assoc]⟩, fun x hx => ?_, fun ha x hx => ?_⟩
        · have hm := g.many rfl
          have hh : H - 1 = h1 := by omega
          rw [List.length_append, hh] at q2
          rw [List.length_cons, hh, Nat.succ_mul]; omega
        · rcases e3 with e3 | e3
          · exact absurd e3 ha
          · omega
        · rcases List.mem_cons.1 hx with rfl | hx
          · refine ⟨i, ?_, e2⟩
            rw [q6]
            have : i ∈ l1 := List.mem_of_mem_head? e1
            simp [this]
          · exact q7 x hx
        · cases hx
          refine ⟨i, ?_, e2⟩
          rw [q6, ha, List.nil_append, List.head?_append, e1]; rfl
      · cases h
theorem sumK_zip {ks : List (List Nat)} {kids : List NKd} (h : ks.length = kids.length) : sumK ((ks.zip kids).map (·.2)) = sumK kids := by rw [zip_map2 h]
theorem goods_nil (K : List Nat) (f : Nat) : Goods K f 0 [] := ⟨.nil, rfl, fun i hi => (by cases hi), fun i hi => (by cases hi), fun i hi => (by cases hi)⟩
theorem nodeIn_fine {K : List Nat} {off : Int} {ct : Nat} {n : Nd} (hK : ∀ c ∈ K, c < 256) (h : nodeIn K off ct = some n) : NdFine n := by
  obtain ⟨_, _, h⟩ := nodeIn_some h
  obtain ⟨_, _, h⟩ := nodeOf_some h
  exact (takeNd_some (fun c hc => hK c (List.mem_of_mem_drop (pc_mem hc))) h).2.2
where
  pc_mem {l : List Nat} {i n c : Nat} (h : c ∈ pc l i n) : c ∈ l := List.mem_of_mem_drop (List.mem_of_mem_take h)
theorem docT_good {K : List Nat} (hK : ∀ c ∈ K, c < 256) : ∀ (f : Nat) (off : Int) (ct : Nat) (root : Bool) (l : List NIt) (h : Nat), docT K f off ct root = some (l, h) → Good K f ct root l h
  | 0, _, _, _, _, _, h => by cases h
  | f + 1, off, ct, root, l, h, e => by
    unfold docT at e
    cases hn : nodeIn K off ct with
    | none => rw [hn] at e; cases e
    | some n =>
      rw [hn] at e
      dsimp only at e
      obtain ⟨_, _, h3⟩ := nodeIn_some hn
      obtain ⟨hm, hc, _⟩ := nodeOf_some h3
      have hfine := nodeIn_fine hK hn
      split at e
      · cases e
      · rename_i hroot
        split at e
        · rename_i hl
          cases e
          have hc' : n.its.length = ct := by rw [← hc, cntN, if_pos hl]
          obtain ⟨q1, q2, _⟩ := may_lf hl hm
          have hlen : (keysN n).length = n.its.length := by unfold keysN; rw [if_pos hl, List.length_map]
          exact ⟨by intro h0; rw [h0] at q1; simp at q1, rises_its hl hm, Nat.le_refl _, by omega, hc', fun hr => by rw [hlen] at hroot; simp only [hr, true_and] at hroot; omega,
            fun i hi => nodeIn_its hK hn hi hl, q2, hfine.its⟩
        · rename_i hl
          have hl' : n.leaf = false := by simpa using hl
          obtain ⟨q1, q2, q3, q4, q5, q6⟩ := may_in hl' hm
          have hlen : (keysN n).length = n.kids.length := by unfold keysN; rw [if_neg hl]; exact q2
          have hz : (n.ks.zip n.kids).length = n.kids.length := by rw [List.length_zip]; omega
          have hne : n.ks.zip n.kids ≠ [] := by intro h0; rw [h0] at hz; simp at hz; omega
          obtain ⟨p1, p2, p3, p4, _, _, _, _⟩ := kidsT_good (K := K) (f := f) (fun d l h hd => docT_good hK f d.off d.ct false l h hd) _ [] 0 0 l h (goods_nil K f) (fun h => absurd rfl h) (.inr hne) e
          rw [sumK_zip q2] at p1
          have hc' : sumK n.kids = ct := by rw [← hc, cntN, if_neg hl]
          have p2' : n.kids.length * 4 ^ (h - 1) ≤ l.length := by rw [hz] at p2; simpa using p2
          have hpos : 0 < 4 ^ (h - 1) := Nat.pow_pos (by decide)
          have hle : 2 * 4 ^ (h - 1) ≤ n.kids.length * 4 ^ (h - 1) := Nat.mul_le_mul_right _ q1.1
          refine ⟨fun h0 => ?_, p1.rise, by omega, by omega, by rw [p1.len, hc']; omega, fun hr => ?_, p1.has, p1.may, p1.fine⟩
          · have h5 : l.length = 0 := by rw [h0]; rfl
            omega
          · rw [hlen] at hroot; simp only [hr, true_and] at hroot
            have : 4 * 4 ^ (h - 1) ≤ n.kids.length * 4 ^ (h - 1) := Nat.mul_le_mul_right _ (by omega)
            have e4 : 4 ^ h = 4 * 4 ^ (h - 1) := by
              rw [Nat.mul_comm, ← Nat.pow_succ]; congr 1; omega
            omega
end Go.By
/- Trees, plain: seen from above as from below; how deep; what lies under a key. -/
namespace Go.By
open Go
theorem kidsT_fuel {rec rec' : NKd → Option (List NIt × Nat)} : ∀ (xs : List (List Nat × NKd)) (all : List NIt) (d : Nat) (l : List NIt) (H : Nat), (∀ d l h, rec d = some (l, h) → h ≤ H - 1 → rec' d = some (l, h)) → (∀ d l h, rec d = some (l, h) → 1 ≤ h ∧ l ≠ []) → (all ≠ [] → 1 ≤ d) →
    kidsT rec xs all d = some (l, H) → kidsT rec' xs all d = some (l, H) ∧ (all ≠ [] → H = d + 1)
  | [], all, d, l, H, _, _, _, h => by cases h; exact ⟨rfl, fun _ => rfl⟩
  | (k, kd) :: r, all, d, l, H, hr, hl, hd, h => by
    unfold kidsT at h ⊢
    cases hk : rec kd with
    | none => rw [hk] at h; cases h
    | some x =>
      obtain ⟨l1, h1⟩ := x
      rw [hk] at h
      dsimp only at h
      split at h
      · rename_i hok
        obtain ⟨i, e1, e2, e3, e4⟩ := okKid_iff.1 hok
        obtain ⟨g1, g2⟩ := hl _ _ _ hk
        have hne : all ++ l1 ≠ [] := by simp [g2]
        obtain ⟨q1, q2⟩ := kidsT_fuel r (all ++ l1) h1 l H hr hl (fun _ => g1) h
        have q2 := q2 hne
        rw [hr kd l1 h1 hk (by omega)]
        dsimp only
        rw [if_pos hok]
        refine ⟨q1, fun ha => ?_⟩
        rcases e3 with e3 | e3
        · exact absurd e3 ha
        · omega
      · cases h
theorem docT_fuel {K : List Nat} (hK : ∀ c ∈ K, c < 256) : ∀ (f : Nat) (off : Int) (ct : Nat) (root : Bool) (l : List NIt) (h : Nat) (g : Nat), docT K f off ct root = some (l, h) → h ≤ g → docT K g off ct root = some (l, h)
  | 0, _, _, _, _, _, _, e, _ => by cases e
  | f + 1, off, ct, root, l, h, g, e, hg => by
    have hgood := docT_good hK _ _ _ _ _ _ e
    cases g with
    | zero => have := hgood.low; omega
    | succ g =>
      unfold docT at e ⊢
      cases hn : nodeIn K off ct with
      | none => rw [hn] at e; cases e
      | some n =>
        rw [hn] at e
        dsimp only at e ⊢
        split at e
        · cases e
        · rename_i hroot
          rw [if_neg hroot]
          split at e
          · rename_i hl
            rw [if_pos hl]; exact e
          · rename_i hl
            rw [if_neg hl]
            exact (kidsT_fuel _ _ _ _ _ (fun d l' h' hd hle => docT_fuel hK f d.off d.ct false l' h' g hd (by omega)) (fun d l' h' hd => ⟨(docT_good hK _ _ _ _ _ _ hd).low, (docT_good hK _ _ _ _ _ _ hd).some⟩) (fun h => absurd rfl h) e).1
/-! Both ways are one. -/
def ub (l : List NIt) (bound : List Nat) : Prop := bound = [] ∨ ∀ j, l.getLast? = some j → lessN j.k bound = true
structure Ways (rec : NKd → Option (List NIt × Nat)) (recC : NKd → List Nat → List Nat → Option Nat) : Prop where
  low : ∀ d l h, rec d = some (l, h) → 1 ≤ h ∧ l ≠ []
  iff : ∀ d k b h, recC d k b = some h ↔ ∃ l, rec d = some (l, h) ∧ (∃ i, l.head? = some i ∧ i.k = k) ∧ ub l b
end Go.By
/- Trees in bytes that grow: what was laid is read as it was; a node that is laid behind all is read; a node over trees is a tree over their items. -/
namespace Go.By
open Go
theorem bodyLen_more {l : List Nat} (m : List Nat) (h : 4 ≤ l.length) : bodyLen (l ++ m) = bodyLen l := by
  unfold bodyLen
  rw [pc_left (by omega)]
theorem isRec_len {l : List Nat} (h : isRec l = true) : 9 + bodyLen l ≤ l.length := by
  simp only [isRec, partOk, Bool.and_eq_true, decide_eq_true_eq] at h
  exact h.2.1
theorem isRec_more {l : List Nat} (m : List Nat) (h : isRec l = true) : isRec (l ++ m) = true := by
  have hl := isRec_len h
  have hb := bodyLen_more (l := l) m (by omega)
  simp only [isRec, partOk, Bool.and_eq_true, decide_eq_true_eq, beq_iff_eq, hb, List.length_append] at h ⊢
  obtain ⟨⟨⟨⟨h1, h2⟩, h3⟩, h4⟩, h5, h6⟩ := h
  refine ⟨⟨⟨⟨by omega, h2⟩, by omega⟩, by omega⟩, by omega, ?_⟩
  rw [pc_left (by omega), h6, List.take_append_of_le_length (by omega)]
theorem nodeOf_more {l : List Nat} {ct : Nat} {n : Nd} (m : List Nat) (h : nodeOf l ct = some n) : nodeOf (l ++ m) ct = some n := by
  unfold nodeOf at h ⊢
  split at h
  · rename_i hc
    have hl := isRec_len hc.1
    have hb := bodyLen_more (l := l) m (by omega)
    have hk : atB (l ++ m) 4 = atB l 4 := by
      unfold atB
      simp only [List.getD]
      rw [List.getElem?_append_left (by omega)]
    rw [if_pos ⟨isRec_more m hc.1, by rw [hk]; exact hc.2⟩, hb, pc_left (by omega)]
    exact h
  · cases h
theorem nodeIn_more {K : List Nat} {off : Int} {ct : Nat} {n : Nd} (m : List Nat) (h : nodeIn K off ct = some n) : nodeIn (K ++ m) off ct = some n := by
  obtain ⟨h1, h2, h3⟩ := nodeIn_some h
  unfold nodeIn
  rw [if_neg (by rw [List.length_append]; omega), List.drop_append_of_le_length (by omega)]
  exact nodeOf_more m h3
theorem nodeIn_new {K : List Nat} {n : Nd} (m : List Nat) (hK : 256 ≤ K.length) (hf : NdFine n) (hm : mayNd n = true) : nodeIn (K ++ (recOf 2 (ndOf n) ++ m)) (K.length : Nat) (cntN n) = some n := by
  have hb := ndOf_length hm
  have hs := ndOf_small hf hm
  unfold nodeIn
  rw [if_neg (by simp only [List.length_append, recOf_length]; omega)]
  have e : (((K.length : Nat) : Int)).toNat = K.length := by omega
  rw [e, List.drop_left]
  unfold nodeOf
  rw [if_pos ⟨isRec_rec (by decide) (by omega) hs, kind_rec _ _ _⟩, bodyLen_rec _ _ _ (by omega), body_rec, takeNd_put hf hm]
  simp
theorem kidsT_mono {rec rec' : NKd → Option (List NIt × Nat)} : ∀ {xs : List (List Nat × NKd)} {all : List NIt} {d : Nat} {x : List NIt × Nat}, (∀ d y, rec d = some y → rec' d = some y) → kidsT rec xs all d = some x → kidsT rec' xs all d = some x
  | [], _, _, _, _, h => h
  | (k, kd) :: r, all, d, x, hr, h => by
    unfold kidsT at h ⊢
    cases h1 : rec kd with
    | none => rw [h1] at h; cases h
    | some y =>
      rw [h1] at h
      rw [hr _ _ h1]
      dsimp only at h ⊢
      split at h
      · rename_i hc
        rw [if_pos hc]
        exact kidsT_mono hr h
      · cases h
theorem docT_more {K : List Nat} (m : List Nat) : ∀ {f : Nat} {off : Int} {ct : Nat} {root : Bool} {x : List NIt × Nat}, docT K f off ct root = some x → docT (K ++ m) f off ct root = some x
  | 0, _, _, _, _, h => by cases h
  | f + 1, off, ct, root, x, h => by
    unfold docT at h ⊢
    cases hn : nodeIn K off ct with
    | none => rw [hn] at h; cases h
    | some n =>
      rw [hn] at h
      rw [nodeIn_more m hn]
      dsimp only at h ⊢
      split at h
      · cases h
      · rename_i hc
        rw [if_neg hc]
        split at h
        · rename_i hl
          rw [if_pos hl]
          exact h
        · rename_i hl
          rw [if_neg hl]
          exact kidsT_mono (fun d y hy => docT_more m hy) h
theorem docT_root {K : List Nat} {f : Nat} {off : Int} {ct : Nat} {x : List NIt × Nat} (h : docT K f off ct false = some x) : docT K f off ct true = some x := by
  cases f with
  | zero => cases h
  | succ f =>
    unfold docT at h ⊢
    cases hn : nodeIn K off ct with
    | none => rw [hn] at h; cases h
    | some n =>
      rw [hn] at h
      dsimp only at h ⊢
      split at h
      · cases h
      · rw [if_neg (by simp)]
        exact h
theorem docT_leaf {K : List Nat} {f : Nat} {off : Int} {ct : Nat} {root : Bool} {n : Nd} (h : nodeIn K off ct = some n) (hl : n.leaf = true) (hr : root = true ∨ 4 ≤ n.its.length) : docT K (f + 1) off ct root = some (n.its, 1) := by
  unfold docT
  rw [h]
  dsimp only
  have hk : (keysN n).length = n.its.length := by unfold keysN; rw [if_pos hl, List.length_map]
  rw [if_neg (by rw [hk]; rcases hr with rfl | hr <;> simp; omega), if_pos hl]
structure Beside (rec : NKd → Option (List NIt × Nat)) (xs : List (List Nat × NKd)) (ls : List (List NIt)) (h : Nat) : Prop where
  len : xs.length = ls.length
  told : ∀ i (hi : i < xs.length) (hi' : i < ls.length), rec xs[i].2 = some (ls[i], h) ∧ ls[i].head?.map (·.k) = some xs[i].1
theorem kidsT_beside {rec : NKd → Option (List NIt × Nat)} {h : Nat} : ∀ {xs : List (List Nat × NKd)} {ls : List (List NIt)} {all : List NIt} {d : Nat}, Beside rec xs ls h → (all ++ ls.flatten).Pairwise BelowIt → (all ≠ [] → d = h) → (xs = [] → d = h) → kidsT rec xs all d = some (all ++ ls.flatten, h + 1)
  | [], ls, all, d, hb, _, _, hd => by
    have := hb.len
    have : ls = [] := List.eq_nil_of_length_eq_zero (by simpa using this.symm)
    subst this
    unfold kidsT
    rw [hd rfl]
    simp
  | (k, kd) :: r, [], all, d, hb, _, _, _ => by have := hb.len; simp at this
  | (k, kd) :: r, l :: ls, all, d, hb, hp, ha, _ => by
    obtain ⟨h1, h2⟩ := hb.told 0 (by simp) (by simp)
    simp only [List.getElem_cons_zero] at h1 h2
    unfold kidsT
    rw [h1]
    dsimp only
    cases l with
    | nil => cases h2
    | cons i l =>
      simp only [List.head?_cons, Option.map_some, Option.some.injEq] at h2
      have hok : okKid k (i :: l) h all d = true := by
        unfold okKid
        simp only [List.head?_cons, Bool.and_eq_true, Bool.or_eq_true, decide_eq_true_eq]
        refine ⟨h2, ?_, ?_⟩
        · by_cases he : all = []
          · exact .inl (by rw [he]; rfl)
          · exact .inr (ha he).symm
        · cases hg : all.getLast? with
          | none => rfl
          | some j =>
            have hj : j ∈ all := List.mem_of_getLast? hg
            exact (List.pairwise_append.1 hp).2.2 j hj i (by simp)
      rw [if_pos hok]
      have hp' : ((all ++ (i :: l)) ++ ls.flatten).Pairwise BelowIt := by simpa using hp
      have := kidsT_beside (rec := rec) (h := h) (xs := r) (ls := ls) (all := all ++ (i :: l)) (d := h) ⟨by simpa using hb.len, fun j hj hj' => by
        have := hb.told (j + 1) (by simpa using hj) (by simpa using hj')
        simpa using this⟩ hp' (fun _ => rfl) (fun _ => rfl)
      rw [this]
      simp
theorem docT_inner {K : List Nat} {f : Nat} {off : Int} {ct h : Nat} {root : Bool} {n : Nd} {ls : List (List NIt)} (hn : nodeIn K off ct = some n) (hl : n.leaf = false) (hr : root = true ∨ 4 ≤ n.ks.length)
    (hb : Beside (fun d => docT K f d.off d.ct false) (n.ks.zip n.kids) ls h) (hp : ls.flatten.Pairwise BelowIt) (h0 : ls ≠ []) : docT K (f + 1) off ct root = some (ls.flatten, h + 1) := by
  unfold docT
  rw [hn]
  dsimp only
  have hk : (keysN n).length = n.ks.length := by unfold keysN; rw [hl]; rfl
  rw [if_neg (by rw [hk]; rcases hr with rfl | hr <;> simp; omega), if_neg (by rw [hl]; decide)]
  have := kidsT_beside (all := []) (d := 0) hb (by simpa using hp) (fun h => absurd rfl h) (fun he => by
    have := hb.len
    rw [he] at this
    exact absurd (List.eq_nil_of_length_eq_zero (by simpa using this.symm)) h0)
  simpa using this
end Go.By
/- Rows of items made trees, plain: level by level; what is laid when one comes, and at the end; what is laid is a right tree of just the items. -/
namespace Go.By
open Go
structure KE where
  k : List Nat
  d : NKd
  l : List NIt
def headE (a : List KE) : List Nat := match a with
  | [] => []
  | e :: _ => e.k
def headI (a : List NIt) : List Nat := match a with
  | [] => []
  | i :: _ => i.k
def ndE (a : List KE) : Nd := ⟨false, [], a.map (·.k), a.map (·.d)⟩
def itsE (a : List KE) : List NIt := (a.map (·.l)).flatten
def layE (C : List Nat) (a : List KE) : List Nat × KE := (C ++ recOf 2 (putNd (ndE a)), ⟨headE a, ⟨(256 + C.length : Nat), sumK (a.map (·.d))⟩, itsE a⟩)
def layI (C : List Nat) (a : List NIt) : List Nat × KE := (C ++ recOf 2 (putNd (lfOf a)), ⟨headI a, ⟨(256 + C.length : Nat), a.length⟩, a⟩)
def takeK : List Nat → List (List KE) → KE → List Nat × List (List KE)
  | C, [], e => (C, [[e]])
  | C, es :: rest, e => if es.length + 1 < 12 then (C, (es ++ [e]) :: rest) else
    ((takeK (layE C ((es ++ [e]).take 8)).1 rest (layE C ((es ++ [e]).take 8)).2).1, (es ++ [e]).drop 8 :: (takeK (layE C ((es ++ [e]).take 8)).1 rest (layE C ((es ++ [e]).take 8)).2).2)
def shareN (n : Nat) : Nat := if n ≤ 8 then n else n - n / 2
def layAllE : Nat → List Nat → List KE → List (List KE) → List Nat × List (List KE)
  | 0, C, _, rest => (C, rest)
  | f + 1, C, es, rest => if es.length = 0 then (C, rest) else
    layAllE f (takeK (layE C (es.take (shareN es.length))).1 rest (layE C (es.take (shareN es.length))).2).1 (es.drop (shareN es.length)) (takeK (layE C (es.take (shareN es.length))).1 rest (layE C (es.take (shareN es.length))).2).2
def layAllI : Nat → List Nat → List NIt → List (List KE) → List Nat × List (List KE)
  | 0, C, _, rest => (C, rest)
  | f + 1, C, es, rest => if es.length = 0 then (C, rest) else
    layAllI f (takeK (layI C (es.take (shareN es.length))).1 rest (layI C (es.take (shareN es.length))).2).1 (es.drop (shareN es.length)) (takeK (layI C (es.take (shareN es.length))).1 rest (layI C (es.take (shareN es.length))).2).2
def firstD (es : List KE) : NKd := match es with
  | [] => ⟨0, 0⟩
  | e :: _ => e.d
def doneK : Nat → List Nat → List (List KE) → Option (List Nat × NKd)
  | 0, _, _ => none
  | _ + 1, C, [] => some (C, ⟨0, 0⟩)
  | f + 1, C, es :: rest => if rest.length = 0 ∧ es.length = 1 then some (C, firstD es) else doneK f (layAllE es.length C es rest).1 (layAllE es.length C es rest).2
def totK : List (List KE) → Nat
  | [] => 0
  | es :: rest => es.length + totK rest
def putB (C : List Nat) (its : List NIt) (lvls : List (List KE)) (i : NIt) : List Nat × List NIt × List (List KE) :=
  if its.length + 1 < 12 then (C, its ++ [i], lvls) else
    ((takeK (layI C ((its ++ [i]).take 8)).1 lvls (layI C ((its ++ [i]).take 8)).2).1, (its ++ [i]).drop 8, (takeK (layI C ((its ++ [i]).take 8)).1 lvls (layI C ((its ++ [i]).take 8)).2).2)
def doneB (C : List Nat) (its : List NIt) (lvls : List (List KE)) : Option (List Nat × NKd) :=
  doneK (totK (layAllI its.length C its lvls).2 + 1) (layAllI its.length C its lvls).1 (layAllI its.length C its lvls).2
def FineI (i : NIt) : Prop := mayIt i = true ∧ (∀ c ∈ i.k, c < 256) ∧ ∀ c ∈ i.v, c < 256
structure Hangs (Z C : List Nat) (h : Nat) (root : Bool) (e : KE) : Prop where
  doc : docT (Z ++ C) h e.d.off e.d.ct root = some (e.l, h)
  ct : e.d.ct = e.l.length
  head : e.l.head?.map (·.k) = some e.k
  low : 256 ≤ e.d.off
  high : e.d.off ≤ (256 + C.length : Nat)
  many : root = false → 4 ^ h ≤ e.l.length
  few : h = 1 ∨ 2 * 4 ^ (h - 1) ≤ e.l.length
theorem Hangs.more {Z C : List Nat} {h : Nat} {root : Bool} {e : KE} (g : Hangs Z C h root e) (m : List Nat) : Hangs Z (C ++ m) h root e := by
  refine ⟨?_, g.ct, g.head, g.low, ?_, g.many, g.few⟩
  · rw [← List.append_assoc]
    exact docT_more m g.doc
  · have := g.high
    rw [List.length_append]
    omega
theorem Hangs.ne {Z C : List Nat} {h : Nat} {root : Bool} {e : KE} (g : Hangs Z C h root e) : e.l ≠ [] := by
  have := g.head
  intro he
  rw [he] at this
  cases this
theorem Hangs.key {Z C : List Nat} {h : Nat} {root : Bool} {e : KE} (g : Hangs Z C h root e) : ∃ j ∈ e.l, j.k = e.k := by
  have := g.head
  cases he : e.l with
  | nil => exact absurd he g.ne
  | cons j r =>
    rw [he] at this
    exact ⟨j, by simp, by simpa using this⟩
theorem pw_risesK : ∀ {ks : List (List Nat)}, ks.Pairwise (fun a b => lessN a b = true) → risesN ks = true
  | [], _ => rfl
  | [_], _ => rfl
  | a :: b :: r, h => by
    rw [List.pairwise_cons] at h
    show (lessN a b && risesN (b :: r)) = true
    rw [h.1 b (by simp), pw_risesK h.2]
    rfl
theorem sum_itsE : ∀ {a : List KE}, (∀ e ∈ a, e.d.ct = e.l.length) → sumK (a.map (·.d)) = (itsE a).length
  | [], _ => rfl
  | e :: a, h => by
    rw [List.map_cons, sumK, h e (by simp), sum_itsE (a := a) (fun x hx => h x (List.mem_cons_of_mem _ hx))]
    simp [itsE]
theorem len_itsE : ∀ {a : List KE} {m : Nat}, (∀ e ∈ a, m ≤ e.l.length) → a.length * m ≤ (itsE a).length
  | [], _, _ => by simp
  | e :: a, m, h => by
    have := len_itsE (a := a) (m := m) (fun x hx => h x (List.mem_cons_of_mem _ hx))
    have := h e (by simp)
    simp only [itsE, List.map_cons, List.flatten_cons, List.length_append, List.length_cons, Nat.add_mul, Nat.one_mul] at *
    omega
theorem layE_len (C : List Nat) (a : List KE) : (layE C a).1.length ≤ C.length + 1309 := by
  have := putNd_length (ndE a)
  simp only [layE, List.length_append, recOf_length]
  omega
theorem layI_len (C : List Nat) (a : List NIt) : (layI C a).1.length ≤ C.length + 1309 := by
  have := putNd_length (lfOf a)
  simp only [layI, List.length_append, recOf_length]
  omega
theorem head_itsE {a : List KE} (h : a ≠ []) (hh : ∀ e ∈ a, e.l.head?.map (·.k) = some e.k) : (itsE a).head?.map (·.k) = some (headE a) := by
  cases a with
  | nil => exact absurd rfl h
  | cons e r =>
    have := hh e (by simp)
    cases he : e.l with
    | nil => rw [he] at this; cases this
    | cons j s =>
      rw [he] at this
      simp only [itsE, List.map_cons, List.flatten_cons, he, headE]
      simpa using this
theorem layI_hangs {Z C : List Nat} (hZ : Z.length = 256) {a : List NIt} {root : Bool} (h8 : 1 ≤ a.length ∧ a.length ≤ 8) (h4 : root = true ∨ 4 ≤ a.length) (hp : a.Pairwise BelowIt) (hf : ∀ i ∈ a, FineI i) : Hangs Z (layI C a).1 1 root (layI C a).2 := by
  have hm : mayNd (lfOf a) = true := by
    unfold mayNd
    rw [if_pos (show (lfOf a).leaf = true from rfl), mayLf_iff]
    refine ⟨h8, fun i hi => (hf i hi).1, pw_risesK ?_, rfl, rfl⟩
    rw [List.pairwise_map]
    exact hp
  have hfn : NdFine (lfOf a) := ⟨fun i hi => (hf i hi).2, fun k hk => (by cases hk), fun d hd => (by cases hd)⟩
  have hn := nodeIn_new (K := Z ++ C) (n := lfOf a) [] (by rw [List.length_append]; omega) hfn hm
  have e : putNd (lfOf a) = ndOf (lfOf a) := by unfold putNd; rw [if_pos hm]
  rw [List.append_nil, ← e, List.length_append, hZ, List.append_assoc] at hn
  refine ⟨docT_leaf hn rfl h4, rfl, ?_, ?_, ?_, fun hr => ?_, .inl rfl⟩
  · cases a with
    | nil => simp at h8
    | cons i r => rfl
  · show (256 : Int) ≤ ((256 + C.length : Nat) : Int)
    omega
  · show ((256 + C.length : Nat) : Int) ≤ ((256 + (layI C a).1.length : Nat) : Int)
    simp only [layI, List.length_append]
    omega
  · rcases h4 with h4 | h4
    · rw [hr] at h4; cases h4
    · show 4 ^ 1 ≤ a.length
      omega
theorem layE_hangs {Z C : List Nat} (hZ : Z.length = 256) {a : List KE} {root : Bool} {h : Nat} (_h1 : 1 ≤ h) (h8 : 2 ≤ a.length ∧ a.length ≤ 8) (h4 : root = true ∨ 4 ≤ a.length) (hk : ∀ e ∈ a, Hangs Z C h false e) (hp : (itsE a).Pairwise BelowIt) (hf : ∀ i ∈ itsE a, FineI i)
    (hl : (itsE a).length ≤ 1000000) (hC : C.length ≤ 1000000000) : Hangs Z (layE C a).1 (h + 1) root (layE C a).2 := by
  have hmem : ∀ {e : KE}, e ∈ a → ∀ i ∈ e.l, i ∈ itsE a := fun he i hi => List.mem_flatten.2 ⟨_, List.mem_map_of_mem he, hi⟩
  have hlen : ∀ e ∈ a, e.l.length ≤ 1000000 := fun e he => Nat.le_trans (List.sublist_flatten_of_mem (List.mem_map_of_mem (f := (·.l)) he)).length_le hl
  have hs : sumK (a.map (·.d)) = (itsE a).length := sum_itsE (fun e he => (hk e he).ct)
  have hm : mayNd (ndE a) = true := by
    unfold mayNd
    rw [if_neg (by simp [ndE]), mayIn_iff]
    refine ⟨⟨by simp only [ndE, List.length_map]; omega, by simp only [ndE, List.length_map]; omega⟩, by simp [ndE], fun k hkm => ?_, pw_risesK ?_, fun d hd => ?_, rfl⟩
    · simp only [ndE, List.mem_map] at hkm
      obtain ⟨e, he, rfl⟩ := hkm
      obtain ⟨j, hj, ej⟩ := (hk e he).key
      rw [← ej]
      exact ((mayIt_iff j).1 (hf j (hmem he j hj)).1).1
    · simp only [ndE]
      rw [List.pairwise_map]
      have hpw := (List.pairwise_flatten.1 hp).2
      rw [List.pairwise_map] at hpw
      refine hpw.imp_of_mem ?_
      intro x y hx hy hxy
      obtain ⟨p, hp1, e1⟩ := (hk x hx).key
      obtain ⟨q, hq1, e2⟩ := (hk y hy).key
      rw [← e1, ← e2]
      exact hxy p hp1 q hq1
    · simp only [ndE, List.mem_map] at hd
      obtain ⟨e, he, rfl⟩ := hd
      rw [mayKd_iff]
      have := (hk e he).low
      have h3 := hlen e he
      have h5 := (hk e he).ct
      have h6 : 1 ≤ e.l.length := List.length_pos_iff.2 (hk e he).ne
      omega
  have hfn : NdFine (ndE a) := by
    refine ⟨fun i hi => (by cases hi), fun k hkm => ?_, fun d hd => ?_⟩
    · simp only [ndE, List.mem_map] at hkm
      obtain ⟨e, he, rfl⟩ := hkm
      obtain ⟨j, hj, ej⟩ := (hk e he).key
      rw [← ej]
      exact (hf j (hmem he j hj)).2.1
    · simp only [ndE, List.mem_map] at hd
      obtain ⟨e, he, rfl⟩ := hd
      have := (hk e he).high
      have h3 := hlen e he
      have h5 := (hk e he).ct
      omega
  have hn := nodeIn_new (K := Z ++ C) (n := ndE a) [] (by rw [List.length_append]; omega) hfn hm
  have e : putNd (ndE a) = ndOf (ndE a) := by unfold putNd; rw [if_pos hm]
  rw [List.append_nil, ← e, List.length_append, hZ, List.append_assoc] at hn
  have hne : a ≠ [] := fun e => by rw [e] at h8; simp at h8
  have hmany : a.length * 4 ^ h ≤ (itsE a).length := len_itsE (fun e he => (hk e he).many rfl)
  refine ⟨?_, hs, head_itsE hne (fun e he => (hk e he).head), ?_, ?_, fun hr => ?_, .inr ?_⟩
  · show docT (Z ++ (C ++ recOf 2 (putNd (ndE a)))) (h + 1) _ _ root = some ((a.map (·.l)).flatten, h + 1)
    refine docT_inner (ls := a.map (·.l)) hn rfl (by simpa [ndE] using h4) ⟨by simp [ndE], fun i hi hi' => ?_⟩ (by exact hp) (fun e => hne (List.map_eq_nil_iff.1 e))
    have hia : i < a.length := by simpa using hi'
    simp only [ndE, List.getElem_zip, List.getElem_map]
    refine ⟨?_, (hk _ (List.getElem_mem hia)).head⟩
    rw [← List.append_assoc]
    exact docT_more _ (hk _ (List.getElem_mem hia)).doc
  · show (256 : Int) ≤ ((256 + C.length : Nat) : Int)
    omega
  · show ((256 + C.length : Nat) : Int) ≤ ((256 + (layE C a).1.length : Nat) : Int)
    simp only [layE, List.length_append]
    omega
  · rcases h4 with h4 | h4
    · rw [hr] at h4; cases h4
    · show 4 ^ (h + 1) ≤ (itsE a).length
      have : 4 * 4 ^ h ≤ a.length * 4 ^ h := Nat.mul_le_mul_right _ h4
      rw [Nat.pow_succ]
      omega
  · show 2 * 4 ^ (h + 1 - 1) ≤ (itsE a).length
    have : 2 * 4 ^ h ≤ a.length * 4 ^ h := Nat.mul_le_mul_right _ h8.1
    rw [Nat.add_sub_cancel]
    omega
def OkL (Z C : List Nat) : Nat → List (List KE) → Prop
  | _, [] => True
  | h, es :: rest => (∀ e ∈ es, Hangs Z C h false e) ∧ (1 ≤ es.length ∧ es.length ≤ 11) ∧ (rest ≠ [] → 4 ≤ es.length) ∧ OkL Z C (h + 1) rest
def allK : List (List KE) → List NIt
  | [] => []
  | es :: rest => allK rest ++ itsE es
theorem OkL.more {Z C : List Nat} (m : List Nat) : ∀ {h : Nat} {lvls : List (List KE)}, OkL Z C h lvls → OkL Z (C ++ m) h lvls
  | _, [], _ => trivial
  | _, _ :: _, ⟨h1, h2, h3, h4⟩ => ⟨fun e he => (h1 e he).more m, h2, h3, h4.more m⟩
theorem itsE_app (a b : List KE) : itsE (a ++ b) = itsE a ++ itsE b := by simp [itsE]
theorem itsE_one (e : KE) : itsE [e] = e.l := by simp [itsE]
theorem itsE_split (a : List KE) (n : Nat) : itsE (a.take n) ++ itsE (a.drop n) = itsE a := by rw [← itsE_app, List.take_append_drop]
structure Fit (l : List NIt) : Prop where
  rise : l.Pairwise BelowIt
  fine : ∀ i ∈ l, FineI i
  len : l.length ≤ 1000000
theorem Fit.sub {l m : List NIt} (h : Fit l) (hs : m.Sublist l) : Fit m := ⟨h.rise.sublist hs, fun i hi => h.fine i (hs.subset hi), Nat.le_trans hs.length_le h.len⟩
theorem layE_more (C : List Nat) (a : List KE) : (layE C a).1 = C ++ recOf 2 (putNd (ndE a)) := rfl
theorem layI_more (C : List Nat) (a : List NIt) : (layI C a).1 = C ++ recOf 2 (putNd (lfOf a)) := rfl
structure TookK (Z C : List Nat) (h : Nat) (lvls : List (List KE)) (e : KE) (C' : List Nat) (lvls' : List (List KE)) : Prop where
  ok : OkL Z C' h lvls'
  all : allK lvls' = allK lvls ++ e.l
  room : C'.length + 1309 * totK lvls' ≤ C.length + 1309 * (totK lvls + 1)
  more : ∃ m, C' = C ++ m
  ne : lvls' ≠ []
set_option maxRecDepth 100000 in
theorem takeK_ok {Z : List Nat} (hZ : Z.length = 256) {B : Nat} (hB : B ≤ 1000000000) : ∀ (lvls : List (List KE)) (C : List Nat) (h : Nat) (e : KE), 1 ≤ h → OkL Z C h lvls → Hangs Z C h false e → Fit (allK lvls ++ e.l) → C.length + 1309 * (totK lvls + 1) ≤ B →
    TookK Z C h lvls e (takeK C lvls e).1 (takeK C lvls e).2
  | [], C, h, e, _, _, he, _, _ => by
    rw [takeK]
    refine ⟨⟨fun x hx => ?_, ⟨by simp, by simp⟩, fun hn => absurd rfl hn, trivial⟩, ?_, Nat.le_refl _, ⟨[], (List.append_nil C).symm⟩, List.cons_ne_nil _ _⟩
    · obtain rfl : x = e := List.mem_singleton.1 hx
      exact he
    · show [] ++ itsE [e] = [] ++ e.l
      rw [itsE_one]
  | es :: rest, C, h, e, h1, ⟨hk, hl, hr, ho⟩, he, hf, hC => by
    have hk' : ∀ x ∈ es ++ [e], Hangs Z C h false x := fun x hx => by
      rcases List.mem_append.1 hx with hx | hx
      · exact hk x hx
      · obtain rfl : x = e := by simpa using hx
        exact he
    unfold takeK
    by_cases h12 : es.length + 1 < 12
    · rw [if_pos h12]
      refine ⟨⟨hk', ⟨by simp, by simp; omega⟩, fun hn => by have := hr hn; simp; omega, ho⟩, ?_, ?_, ⟨[], by simp⟩, by simp⟩
      · simp [allK, itsE_app, itsE_one]
      · simp only [totK, List.length_append, List.length_singleton]
        omega
    · rw [if_neg h12]
      have hall : allK (es :: rest) ++ e.l = (allK rest ++ itsE ((es ++ [e]).take 8)) ++ itsE ((es ++ [e]).drop 8) := by
        rw [List.append_assoc, itsE_split, itsE_app, itsE_one, allK, List.append_assoc]
      have hf8 : Fit (allK rest ++ itsE ((es ++ [e]).take 8)) := hf.sub (by rw [hall]; exact List.sublist_append_left _ _)
      have hfa := hf8.sub (List.sublist_append_right _ _)
      simp only [totK] at hC
      have hln : (es ++ [e]).length = 12 := by simp; omega
      have hg := layE_hangs (Z := Z) (C := C) (root := false) (a := (es ++ [e]).take 8) hZ h1 (by rw [List.length_take]; omega) (.inr (by rw [List.length_take]; omega)) (fun x hx => hk' x (List.mem_of_mem_take hx)) hfa.rise hfa.fine hfa.len (by omega)
      have hlay := layE_len C ((es ++ [e]).take 8)
      have ih := takeK_ok hZ hB rest (layE C ((es ++ [e]).take 8)).1 (h + 1) (layE C ((es ++ [e]).take 8)).2 (by omega) (ho.more _) hg hf8 (by omega)
      obtain ⟨m, hm⟩ := ih.more
      refine ⟨⟨fun x hx => ?_, ⟨by simp only [List.length_drop]; omega, by simp only [List.length_drop]; omega⟩, fun _ => by simp only [List.length_drop]; omega, ih.ok⟩, ?_, ?_, ⟨recOf 2 (putNd (ndE ((es ++ [e]).take 8))) ++ m, ?_⟩, by simp⟩
      · rw [hm, layE_more, List.append_assoc]
        exact (hk' x (List.mem_of_mem_drop hx)).more _
      · rw [allK, ih.all, hall]
        rfl
      · have := ih.room
        simp only [totK, List.length_drop]
        omega
      · dsimp only
        rw [hm, layE_more, List.append_assoc]
theorem share_le {n : Nat} (h : 1 ≤ n) : 1 ≤ shareN n ∧ shareN n ≤ n := by
  unfold shareN
  split <;> omega
theorem share_each {n : Nat} (h : 4 ≤ n ∧ n ≤ 11) : (4 ≤ shareN n ∧ shareN n ≤ 8) ∧ (n - shareN n = 0 ∨ (4 ≤ n - shareN n ∧ n - shareN n ≤ 11)) := by
  unfold shareN
  split <;> omega
structure LaidK (Z C : List Nat) (h : Nat) (n : Nat) (l : List NIt) (rest : List (List KE)) (C' : List Nat) (lvls' : List (List KE)) : Prop where
  ok : OkL Z C' h lvls'
  all : allK lvls' = allK rest ++ l
  room : C'.length + 1309 * totK lvls' ≤ C.length + 1309 * (totK rest + n)
  tot : totK lvls' ≤ totK rest + n ∧ (2 ≤ n → totK lvls' + 1 ≤ totK rest + n)
  more : ∃ m, C' = C ++ m
  ne : 1 ≤ n → lvls' ≠ []
theorem tot_took : ∀ (lvls : List (List KE)) (C : List Nat) (e : KE), totK (takeK C lvls e).2 ≤ totK lvls + 1
  | [], _, _ => by simp [takeK, totK]
  | es :: rest, C, e => by
    unfold takeK
    by_cases h12 : es.length + 1 < 12
    · rw [if_pos h12]; simp [totK]; omega
    · rw [if_neg h12]
      have := tot_took rest (layE C ((es ++ [e]).take 8)).1 (layE C ((es ++ [e]).take 8)).2
      simp only [totK, List.length_drop, List.length_append, List.length_singleton]
      omega
theorem layAllE_ok {Z : List Nat} (hZ : Z.length = 256) {B : Nat} (hB : B ≤ 1000000000) {h : Nat} (h1 : 1 ≤ h) : ∀ (f : Nat) (C : List Nat) (es : List KE) (rest : List (List KE)), es.length ≤ f → (es.length = 0 ∨ (4 ≤ es.length ∧ es.length ≤ 11)) → (∀ e ∈ es, Hangs Z C h false e) → OkL Z C (h + 1) rest → Fit (allK rest ++ itsE es) → C.length + 1309 * (totK rest + es.length) ≤ B →
    LaidK Z C (h + 1) es.length (itsE es) rest (layAllE f C es rest).1 (layAllE f C es rest).2
  | 0, C, es, rest, hf, _, _, ho, _, _ => by
    obtain rfl : es = [] := List.eq_nil_of_length_eq_zero (by omega)
    exact ⟨ho, by simp [layAllE, itsE], by simp [layAllE], ⟨by simp [layAllE], fun h => by simp at h⟩, ⟨[], by simp [layAllE]⟩, fun h => by simp at h⟩
  | f + 1, C, es, rest, hf, hl, hk, ho, ht, hC => by
    unfold layAllE
    by_cases h0 : es.length = 0
    · obtain rfl : es = [] := List.eq_nil_of_length_eq_zero h0
      rw [if_pos h0]
      exact ⟨ho, by simp [itsE], by simp, ⟨by simp, fun h => by simp at h⟩, ⟨[], by simp⟩, fun h => by simp at h⟩
    · rw [if_neg h0]
      have hl' : 4 ≤ es.length ∧ es.length ≤ 11 := by omega
      obtain ⟨hs, hd⟩ := share_each hl'
      have hall : allK rest ++ itsE es = (allK rest ++ itsE (es.take (shareN es.length))) ++ itsE (es.drop (shareN es.length)) := by
        rw [List.append_assoc, itsE_split]
      have hf8 : Fit (allK rest ++ itsE (es.take (shareN es.length))) := ht.sub (by rw [hall]; exact List.sublist_append_left _ _)
      have hfa := hf8.sub (List.sublist_append_right _ _)
      have hle := (share_le (n := es.length) (by omega)).2
      have hlt : (es.take (shareN es.length)).length = shareN es.length := by rw [List.length_take]; omega
      have hg := layE_hangs (Z := Z) (C := C) (root := false) (a := es.take (shareN es.length)) hZ h1 (by omega) (.inr (by omega)) (fun x hx => hk x (List.mem_of_mem_take hx)) hfa.rise hfa.fine hfa.len (by omega)
      have hlay := layE_len C (es.take (shareN es.length))
      have it := takeK_ok hZ hB rest (layE C (es.take (shareN es.length))).1 (h + 1) (layE C (es.take (shareN es.length))).2 (by omega) (ho.more _) hg hf8 (by omega)
      have hroom := it.room
      have htot := tot_took rest (layE C (es.take (shareN es.length))).1 (layE C (es.take (shareN es.length))).2
      obtain ⟨m, hm⟩ := it.more
      have hC2 : (takeK (layE C (es.take (shareN es.length))).1 rest (layE C (es.take (shareN es.length))).2).1 = C ++ (recOf 2 (putNd (ndE (es.take (shareN es.length)))) ++ m) := by rw [hm, layE_more, List.append_assoc]
      have ih := layAllE_ok hZ hB h1 f (takeK (layE C (es.take (shareN es.length))).1 rest (layE C (es.take (shareN es.length))).2).1 (es.drop (shareN es.length)) (takeK (layE C (es.take (shareN es.length))).1 rest (layE C (es.take (shareN es.length))).2).2 (by rw [List.length_drop]; omega) (by rw [List.length_drop]; omega)
        (fun x hx => by rw [hC2]; exact (hk x (List.mem_of_mem_drop hx)).more _) it.ok (by rw [it.all]; exact hall ▸ ht) (by rw [List.length_drop]; omega)
      obtain ⟨m2, hm2⟩ := ih.more
      have hr2 := ih.room
      have ht2 := ih.tot.1
      rw [List.length_drop] at hr2 ht2
      refine ⟨ih.ok, by rw [ih.all, it.all, hall]; rfl, ?_, ⟨by omega, fun _ => by omega⟩, ⟨recOf 2 (putNd (ndE (es.take (shareN es.length)))) ++ m ++ m2, by rw [hm2, hC2]; simp⟩, fun _ => ?_⟩
      · omega
      · by_cases hz : 1 ≤ (es.drop (shareN es.length)).length
        · exact ih.ne hz
        · intro he
          have h5 := ih.all
          have h6 : (es.drop (shareN es.length)) = [] := List.eq_nil_of_length_eq_zero (by omega)
          rw [he, h6, it.all] at h5
          have h7 : (layE C (es.take (shareN es.length))).2.l ≠ [] := hg.ne
          simp [allK, itsE] at h5
          exact h7 h5.2
end Go.By
/- Rows of items made trees, plain: to the end. -/
namespace Go.By
open Go
structure Done (Z C : List Nat) (d : NKd) (H : Nat) (l : List NIt) : Prop where
  doc : docT (Z ++ C) H d.off d.ct true = some (l, H)
  ct : d.ct = l.length
  low : 256 ≤ d.off
  high : d.off ≤ (256 + C.length : Nat)
  few : H = 1 ∨ 2 * 4 ^ (H - 1) ≤ l.length
theorem Hangs.done {Z C : List Nat} {h : Nat} {root : Bool} {e : KE} (g : Hangs Z C h root e) : Done Z C e.d h e.l := by
  refine ⟨?_, g.ct, g.low, g.high, g.few⟩
  cases root with
  | true => exact g.doc
  | false => exact docT_root g.doc
theorem layAllE_short (C : List Nat) (es : List KE) (h : 1 ≤ es.length ∧ es.length ≤ 8) : layAllE es.length C es [] = ((layE C es).1, [[(layE C es).2]]) := by
  obtain ⟨f, hf⟩ : ∃ f, es.length = f + 1 := ⟨es.length - 1, by omega⟩
  have hs : shareN es.length = es.length := by unfold shareN; rw [if_pos h.2]
  have ht : es.take (shareN es.length) = es := by rw [hs, List.take_length]
  have hd : es.drop (shareN es.length) = [] := by rw [hs, List.drop_length]
  rw [hf]
  unfold layAllE
  rw [if_neg (by omega), ht, hd]
  simp only [takeK]
  cases f with
  | zero => simp [layAllE]
  | succ f => simp [layAllE]
theorem doneK_ok {Z : List Nat} (hZ : Z.length = 256) {B : Nat} (hB : B ≤ 1000000000) : ∀ (f : Nat) (C : List Nat) (h : Nat) (lvls : List (List KE)), 1 ≤ h → lvls ≠ [] → OkL Z C h lvls → totK lvls + 1 ≤ f → Fit (allK lvls) → C.length + 1309 * totK lvls ≤ B →
    ∃ C' d H, doneK f C lvls = some (C', d) ∧ Done Z C' d H (allK lvls) ∧ C'.length ≤ C.length + 1309 * totK lvls ∧ ∃ m, C' = C ++ m
  | 0, _, _, _, _, _, _, hf, _, _ => by omega
  | _ + 1, _, _, [], _, hne, _, _, _, _ => absurd rfl hne
  | f + 1, C, h, es :: rest, h1, _, ⟨hk, hl, hr, ho⟩, hf, ht, hC => by
    unfold doneK
    simp only [totK] at hf hC ⊢
    by_cases h0 : rest.length = 0 ∧ es.length = 1
    · rw [if_pos h0]
      obtain rfl : rest = [] := List.eq_nil_of_length_eq_zero h0.1
      obtain ⟨e, rfl⟩ := List.length_eq_one_iff.1 h0.2
      refine ⟨C, e.d, h, rfl, ?_, by omega, [], by simp⟩
      have := (hk e (by simp)).done
      simpa [allK, itsE] using this
    · rw [if_neg h0]
      by_cases h4 : 4 ≤ es.length
      · have hL := layAllE_ok hZ hB h1 es.length C es rest (Nat.le_refl _) (.inr ⟨h4, hl.2⟩) hk ho ht (by omega)
        have hroom := hL.room
        have htot := hL.tot.2 (by omega)
        obtain ⟨C', d, H, e1, e2, e3, m, e4⟩ := doneK_ok hZ hB f (layAllE es.length C es rest).1 (h + 1) (layAllE es.length C es rest).2 (by omega) (hL.ne (by omega)) hL.ok (by omega) (by rw [hL.all]; exact ht) (by omega)
        obtain ⟨m2, hm2⟩ := hL.more
        refine ⟨C', d, H, e1, ?_, by omega, m2 ++ m, by rw [e4, hm2, List.append_assoc]⟩
        rw [hL.all] at e2
        exact e2
      · have hrest : rest = [] := by
          cases rest with
          | nil => rfl
          | cons a b => exact absurd (hr (by simp)) h4
        subst hrest
        have h2 : 2 ≤ es.length ∧ es.length ≤ 3 := by
          have : ¬ es.length = 1 := fun e => h0 ⟨rfl, e⟩
          omega
        rw [layAllE_short C es (by omega)]
        have ht' : Fit (itsE es) := by simpa [allK] using ht
        have hg := layE_hangs (Z := Z) (C := C) (root := true) (a := es) hZ h1 (by omega) (.inl rfl) hk ht'.rise ht'.fine ht'.len (by omega)
        have hlen := layE_len C es
        obtain ⟨f', rfl⟩ : ∃ f', f = f' + 1 := ⟨f - 1, by omega⟩
        refine ⟨(layE C es).1, (layE C es).2.d, h + 1, ?_, ?_, by omega, recOf 2 (putNd (ndE es)), rfl⟩
        · simp [doneK, firstD]
        · exact hg.done
structure LaidI (Z C : List Nat) (n : Nat) (l : List NIt) (rest : List (List KE)) (C' : List Nat) (lvls' : List (List KE)) : Prop where
  ok : OkL Z C' 1 lvls'
  all : allK lvls' = allK rest ++ l
  room : C'.length + 1309 * totK lvls' ≤ C.length + 1309 * (totK rest + n)
  more : ∃ m, C' = C ++ m
  ne : 1 ≤ n → lvls' ≠ []
theorem layAllI_ok {Z : List Nat} (hZ : Z.length = 256) {B : Nat} (hB : B ≤ 1000000000) : ∀ (f : Nat) (C : List Nat) (es : List NIt) (rest : List (List KE)), es.length ≤ f → (es.length = 0 ∨ (4 ≤ es.length ∧ es.length ≤ 11)) → OkL Z C 1 rest → Fit (allK rest ++ es) → C.length + 1309 * (totK rest + es.length) ≤ B →
    LaidI Z C es.length es rest (layAllI f C es rest).1 (layAllI f C es rest).2
  | 0, C, es, rest, hf, _, ho, _, _ => by
    obtain rfl : es = [] := List.eq_nil_of_length_eq_zero (by omega)
    exact ⟨ho, by simp [layAllI], by simp [layAllI], ⟨[], by simp [layAllI]⟩, fun h => by simp at h⟩
  | f + 1, C, es, rest, hf, hl, ho, ht, hC => by
    unfold layAllI
    by_cases h0 : es.length = 0
    · obtain rfl : es = [] := List.eq_nil_of_length_eq_zero h0
      rw [if_pos h0]
      exact ⟨ho, by simp, by simp, ⟨[], by simp⟩, fun h => by simp at h⟩
    · rw [if_neg h0]
      have hl' : 4 ≤ es.length ∧ es.length ≤ 11 := by omega
      obtain ⟨hs, hd⟩ := share_each hl'
      have hall : allK rest ++ es = (allK rest ++ es.take (shareN es.length)) ++ es.drop (shareN es.length) := by
        rw [List.append_assoc, List.take_append_drop]
      have hf8 : Fit (allK rest ++ es.take (shareN es.length)) := ht.sub (by rw [hall]; exact List.sublist_append_left _ _)
      have hfa := hf8.sub (List.sublist_append_right _ _)
      have hle := (share_le (n := es.length) (by omega)).2
      have hlt : (es.take (shareN es.length)).length = shareN es.length := by rw [List.length_take]; omega
      have hg := layI_hangs (Z := Z) (C := C) (root := false) (a := es.take (shareN es.length)) hZ (by omega) (.inr (by omega)) hfa.rise hfa.fine
      have hlay := layI_len C (es.take (shareN es.length))
      have it := takeK_ok hZ hB rest (layI C (es.take (shareN es.length))).1 1 (layI C (es.take (shareN es.length))).2 (by omega) (ho.more _) hg hf8 (by omega)
      have hroom := it.room
      obtain ⟨m, hm⟩ := it.more
      have hC2 : (takeK (layI C (es.take (shareN es.length))).1 rest (layI C (es.take (shareN es.length))).2).1 = C ++ (recOf 2 (putNd (lfOf (es.take (shareN es.length)))) ++ m) := by rw [hm, layI_more, List.append_assoc]
      have ih := layAllI_ok hZ hB f (takeK (layI C (es.take (shareN es.length))).1 rest (layI C (es.take (shareN es.length))).2).1 (es.drop (shareN es.length)) (takeK (layI C (es.take (shareN es.length))).1 rest (layI C (es.take (shareN es.length))).2).2 (by rw [List.length_drop]; omega) (by rw [List.length_drop]; omega)
        it.ok (by rw [it.all]; exact hall ▸ ht) (by rw [List.length_drop]; omega)
      obtain ⟨m2, hm2⟩ := ih.more
      have hr2 := ih.room
      rw [List.length_drop] at hr2
      refine ⟨ih.ok, by rw [ih.all, it.all, hall]; rfl, by omega, ⟨recOf 2 (putNd (lfOf (es.take (shareN es.length)))) ++ m ++ m2, by rw [hm2, hC2]; simp⟩, fun _ => ?_⟩
      by_cases hz : 1 ≤ (es.drop (shareN es.length)).length
      · exact ih.ne hz
      · intro he
        have h5 := ih.all
        have h6 : (es.drop (shareN es.length)) = [] := List.eq_nil_of_length_eq_zero (by omega)
        rw [he, h6, it.all] at h5
        have h7 : (layI C (es.take (shareN es.length))).2.l ≠ [] := hg.ne
        simp [allK] at h5
        exact h7 h5.2
theorem layAllI_short (C : List Nat) (es : List NIt) (h : 1 ≤ es.length ∧ es.length ≤ 8) : layAllI es.length C es [] = ((layI C es).1, [[(layI C es).2]]) := by
  obtain ⟨f, hf⟩ : ∃ f, es.length = f + 1 := ⟨es.length - 1, by omega⟩
  have hs : shareN es.length = es.length := by unfold shareN; rw [if_pos h.2]
  have ht : es.take (shareN es.length) = es := by rw [hs, List.take_length]
  have hd : es.drop (shareN es.length) = [] := by rw [hs, List.drop_length]
  rw [hf]
  unfold layAllI
  rw [if_neg (by omega), ht, hd]
  simp only [takeK]
  cases f with
  | zero => simp [layAllI]
  | succ f => simp [layAllI]
structure OkB (Z C : List Nat) (its : List NIt) (lvls : List (List KE)) (l : List NIt) : Prop where
  ok : OkL Z C 1 lvls
  all : l = allK lvls ++ its
  len : its.length ≤ 11
  many : lvls ≠ [] → 4 ≤ its.length
  room : C.length + 1309 * (totK lvls + its.length) ≤ 1309 * l.length
theorem OkB.none (Z : List Nat) : OkB Z [] [] [] [] := ⟨trivial, rfl, Nat.zero_le _, fun h => absurd rfl h, by simp [totK]⟩
theorem putB_ok {Z : List Nat} (hZ : Z.length = 256) {C : List Nat} {its : List NIt} {lvls : List (List KE)} {all : List NIt} {i : NIt} (h : OkB Z C its lvls all) (hf : Fit (all ++ [i])) (hn : all.length ≤ 700000) :
    OkB Z (putB C its lvls i).1 (putB C its lvls i).2.1 (putB C its lvls i).2.2 (all ++ [i]) := by
  have hroom := h.room
  unfold putB
  by_cases h12 : its.length + 1 < 12
  · rw [if_pos h12]
    refine ⟨h.ok, by rw [h.all, List.append_assoc], by simp; omega, fun hn => by have := h.many hn; simp; omega, ?_⟩
    simp only [List.length_append, List.length_singleton]
    omega
  · rw [if_neg h12]
    have hln : (its ++ [i]).length = 12 := by have := h.len; simp; omega
    have hall : all ++ [i] = (allK lvls ++ (its ++ [i]).take 8) ++ (its ++ [i]).drop 8 := by
      rw [List.append_assoc, List.take_append_drop, h.all, List.append_assoc]
    have hf8 : Fit (allK lvls ++ (its ++ [i]).take 8) := hf.sub (by rw [hall]; exact List.sublist_append_left _ _)
    have hfa := hf8.sub (List.sublist_append_right _ _)
    have hlay := layI_len C ((its ++ [i]).take 8)
    have hg := layI_hangs (Z := Z) (C := C) (root := false) (a := (its ++ [i]).take 8) hZ (by rw [List.length_take]; omega) (.inr (by rw [List.length_take]; omega)) hfa.rise hfa.fine
    have hit : its.length = 11 := by have := h.len; omega
    have it := takeK_ok hZ (Nat.le_refl 1000000000) lvls (layI C ((its ++ [i]).take 8)).1 1 (layI C ((its ++ [i]).take 8)).2 (by omega) (h.ok.more _) hg hf8 (by omega)
    have hr2 := it.room
    refine ⟨it.ok, ?_, ?_, fun _ => ?_, ?_⟩
    · rw [hall, it.all]
      rfl
    · simp only [List.length_drop]; omega
    · simp only [List.length_drop]; omega
    · simp only [List.length_append, List.length_drop, List.length_singleton]
      omega
theorem doneB_ok {Z : List Nat} (hZ : Z.length = 256) {C : List Nat} {its : List NIt} {lvls : List (List KE)} {all : List NIt} (h : OkB Z C its lvls all) (hf : Fit all) (hn : all.length ≤ 700000) (hne : all ≠ []) :
    ∃ C' d H, doneB C its lvls = some (C', d) ∧ Done Z C' d H all ∧ C'.length ≤ 1309 * (all.length + 1) ∧ ∃ m, C' = C ++ m := by
  have hroom := h.room
  have hf' : Fit (allK lvls ++ its) := h.all ▸ hf
  unfold doneB
  by_cases h4 : 4 ≤ its.length
  · have hL := layAllI_ok hZ (Nat.le_refl 1000000000) its.length C its lvls (Nat.le_refl _) (.inr ⟨h4, h.len⟩) h.ok hf' (by omega)
    have hr2 := hL.room
    obtain ⟨C', d, H, e1, e2, e3, m, e4⟩ := doneK_ok hZ (Nat.le_refl 1000000000) (totK (layAllI its.length C its lvls).2 + 1) (layAllI its.length C its lvls).1 1 (layAllI its.length C its lvls).2 (by omega) (hL.ne (by omega)) hL.ok (Nat.le_refl _) (by rw [hL.all]; exact hf') (by omega)
    obtain ⟨m2, hm2⟩ := hL.more
    refine ⟨C', d, H, e1, ?_, by omega, m2 ++ m, by rw [e4, hm2, List.append_assoc]⟩
    rw [hL.all, ← h.all] at e2
    exact e2
  · have hl : lvls = [] := by
      cases lvls with
      | nil => rfl
      | cons a b => exact absurd (h.many (by simp)) h4
    subst hl
    have ha : all = its := by rw [h.all]; rfl
    subst ha
    have h1 : 1 ≤ all.length := List.length_pos_iff.2 hne
    rw [layAllI_short C all (by omega)]
    have hg := layI_hangs (Z := Z) (C := C) (root := true) (a := all) hZ (by omega) (.inl rfl) hf.rise hf.fine
    have hlay := layI_len C all
    simp only [totK] at hroom
    refine ⟨(layI C all).1, (layI C all).2.d, 1, by simp [doneK, firstD], hg.done, by omega, recOf 2 (putNd (lfOf all)), rfl⟩
theorem doneB_none (C : List Nat) : doneB C [] [] = some (C, ⟨0, 0⟩) := by
  simp [doneB, layAllI, doneK, totK]
end Go.By
/- Trees, plain: what lies under a key, going down and in the whole row. -/
namespace Go.By
open Go
def pick : List (List Nat × NKd) → List Nat → Option NKd
  | [], _ => none
  | x :: r, key => if lessN key x.1 = true then none else match pick r key with
    | some d => some d
    | none => some x.2
/-! The document's Find. -/
end Go.By
