/- Rows of items, of keys, of trees that are one's own. -/
import Derived.Test.YtnbnnonjbjbbkaaGrw
import Derived.Test.YtnbnnonjbjbbkaaNdO
namespace Go.By
open Go Go.RowKit

/-- Only this block turned. -/
structure Only (A : Nat) (w w' : World) : Prop where
  os : w'.os = w.os
  tape : w'.tape = w.tape
  output : w'.output = w.output
  size : w.heap.size ≤ w'.heap.size
  block : ∀ k, k < w.heap.size → k ≠ A → w'.heap[k]? = w.heap[k]?
theorem Only.refl (A : Nat) (w : World) : Only A w w := ⟨rfl, rfl, rfl, Nat.le_refl _, fun _ _ _ => rfl⟩
theorem Only.of_below {A : Nat} {w w' : World} (h : Below w.heap.size w w') : Only A w w' := ⟨h.os, h.tape, h.output, h.size, fun k hk _ => h.block k hk⟩
theorem Only.trans {A : Nat} {w w1 w2 : World} (h : Only A w w1) (h2 : Only A w1 w2) : Only A w w2 :=
  ⟨h2.os.trans h.os, h2.tape.trans h.tape, h2.output.trans h.output, Nat.le_trans h.size h2.size, fun k hk hne => (h2.block k (Nat.lt_of_lt_of_le hk h.size) hne).trans (h.block k hk hne)⟩
theorem Only.set (A i : Nat) (w : World) (v : Value) : Only A w (w.setCell ⟨A, i, none⟩ v) :=
  ⟨rfl, rfl, rfl, by simp [World.setCell], fun k _ hne => heap_setCell_other w ⟨A, i, none⟩ k v hne⟩
theorem Only.drewN (A : Nat) (w : World) (n : Nat) : Only A w (w.drewN n) := ⟨rfl, rfl, rfl, Nat.le_refl _, fun _ _ _ => rfl⟩
theorem Only.alloc (A : Nat) (w : World) (o : Obj) : Only A w (w.alloc o) := Only.of_below ((Below.refl _ _).alloc (Nat.le_refl _) _)
theorem Below.only {B A : Nat} {w0 w w' : World} (h : Below B w0 w) (hB : B ≤ A) (hw : B ≤ w.heap.size) (h2 : Only A w w') : Below B w0 w' :=
  ⟨h2.os.trans h.os, h2.tape.trans h.tape, h2.output.trans h.output, Nat.le_trans h.size h2.size, fun k hk => (h2.block k (by omega) (by omega)).trans (h.block k hk)⟩
/-- Two blocks turned. -/
structure Only2 (A t : Nat) (w w' : World) : Prop where
  os : w'.os = w.os
  tape : w'.tape = w.tape
  output : w'.output = w.output
  size : w.heap.size ≤ w'.heap.size
  block : ∀ k, k < w.heap.size → k ≠ A → k ≠ t → w'.heap[k]? = w.heap[k]?
theorem Only.two {A : Nat} {w w' : World} (h : Only A w w') (t : Nat) : Only2 A t w w' := ⟨h.os, h.tape, h.output, h.size, fun k hk h1 _ => h.block k hk h1⟩
theorem Only2.trans {A t : Nat} {w w1 w2 : World} (h : Only2 A t w w1) (h2 : Only2 A t w1 w2) : Only2 A t w w2 :=
  ⟨h2.os.trans h.os, h2.tape.trans h.tape, h2.output.trans h.output, Nat.le_trans h.size h2.size, fun k hk hne hnt => (h2.block k (Nat.lt_of_lt_of_le hk h.size) hne hnt).trans (h.block k hk hne hnt)⟩
theorem Only2.set (A t i : Nat) (w : World) (v : Value) : Only2 A t w (w.setCell ⟨t, i, none⟩ v) :=
  ⟨rfl, rfl, rfl, by simp [World.setCell], fun k _ _ hne => heap_setCell_other w ⟨t, i, none⟩ k v hne⟩
/-- The second is new. -/
theorem Only.then2 {A t : Nat} {w w1 w2 : World} (h : Only A w w1) (h2 : Only2 A t w1 w2) (ht : w.heap.size ≤ t) : Only A w w2 :=
  ⟨h2.os.trans h.os, h2.tape.trans h.tape, h2.output.trans h.output, Nat.le_trans h.size h2.size, fun k hk hne => (h2.block k (Nat.lt_of_lt_of_le hk h.size) hne (by omega)).trans (h.block k hk hne)⟩

/-- A row stays where its block does. -/
theorem owns_stay {w w' : World} {base s : Nat} {e : TypeId} {v : Value} {n : Nat} {xs : List Value} (h : w.ownsRow base e s v n xs) (hk : ∀ k, v.ownBlock = some k → w'.heap[k]? = w.heap[k]?) : w'.ownsRow base e s v n xs := by
  refine ⟨h.1, ?_⟩
  rcases h.2 with h2 | ⟨g, cap, cur, h1, h2, h3, h4⟩
  · exact .inl h2
  · exact .inr ⟨g, cap, cur, h1, h2, (hk g (by rw [h1]; rfl)).trans h3, h4⟩
/-- Blocks of unlike types are not the same. -/
theorem owns_ne {w : World} {base s : Nat} {e T : TypeId} {v : Value} {n : Nat} {xs : List Value} (h : w.ownsRow base e s v n xs) {b : Nat} {c : Array Value} {fr : Nat × Nat} (hb : w.heap[b]? = some (.cells c T fr)) (hne : e ≠ T) : v.ownBlock ≠ some b := by
  intro he
  rcases h.2 with ⟨h2, _⟩ | ⟨g, cap, cur, h1, h2, h3, h4⟩
  · rw [h2] at he; cases he
  · rw [h1] at he
    obtain rfl : g = b := by simpa [Value.ownBlock] using he
    rw [h3] at hb
    simp only [Option.some.injEq, Obj.cells.injEq] at hb
    exact hne hb.2.1
theorem owns_apart {w : World} {base s base' s' : Nat} {e e' : TypeId} {v v' : Value} {n n' : Nat} {xs xs' : List Value} (h : w.ownsRow base e s v n xs) (h' : w.ownsRow base' e' s' v' n' xs') (hne : e ≠ e') : ∀ k, v.ownBlock = some k → v'.ownBlock ≠ some k := by
  intro k hk he
  rcases h'.2 with ⟨h2, _⟩ | ⟨g, cap, cur, h1, h2, h3, h4⟩
  · rw [h2] at he; cases he
  · rw [h1] at he
    obtain rfl : g = k := by simpa [Value.ownBlock] using he
    exact owns_ne h h3 hne hk
theorem owns_only {w w' : World} {base s b : Nat} {e T : TypeId} {v : Value} {n : Nat} {xs : List Value} {c : Array Value} {fr : Nat × Nat} (h : w.ownsRow base e s v n xs) (hb : w.heap[b]? = some (.cells c T fr)) (hne : e ≠ T) (ho : Only b w w') : w'.ownsRow base e s v n xs :=
  owns_stay h (fun k hk => ho.block k (h.lt k hk).2 (fun e => owns_ne h hb hne (by rw [hk, e])))
theorem owns_grows {w w' : World} {base s base' s' : Nat} {e e' : TypeId} {v u u' : Value} {n n' : Nat} {xs xs' : List Value} (h : w.ownsRow base e s v n xs) (h' : w.ownsRow base' e' s' u n' xs') (hne : e ≠ e') (hg : Grows w w' u u') : w'.ownsRow base e s v n xs :=
  owns_stay h (fun k hk => hg.block (h.lt k hk).2 (owns_apart h h' hne k hk))
theorem owns_below' {w w' : World} {base s : Nat} {e : TypeId} {v : Value} {n : Nat} {xs : List Value} (h : w.ownsRow base e s v n xs) (hb : Below w.heap.size w w') : w'.ownsRow base e s v n xs :=
  owns_stay h (fun k hk => hb.block k (h.lt k hk).2)
end Go.By
namespace Go.Proofs.Ytnbnnonjbjbbkaa
open Go Go.RowKit Go.By

/-- A text of one's own. -/
def Txt (w : World) (B : Nat) (v : Value) (l : List Nat) : Prop := w.ownsRow B 5 1 v l.length (cellsOf l) ∧ (∀ c ∈ l, c < 256) ∧ l.length ≤ maxLen
theorem Txt.bytes {w : World} {B : Nat} {v : Value} {l : List Nat} (h : Txt w B v l) : Bytes w v l := Bytes.of_owns h.1 h.2.1 h.2.2
theorem Txt.nil (w : World) (B : Nat) : Txt w B (.slice none 0 0) [] := ⟨World.ownsRow_nil _ _ _ _, by simp, by simp⟩
def itCells (c : Value × Value) : List Value := [c.1, c.2]
/-- Rows as they are read: items, keys, trees. -/
def ItRow (w : World) (B : Nat) (v : Value) (its : List NIt) : Prop :=
  ∃ cs : List (Value × Value), cs.length = its.length ∧ w.ownsRow B 36 2 v its.length (cs.flatMap itCells) ∧ ∀ j (h : j < its.length) (h' : j < cs.length), Txt w B cs[j].1 its[j].k ∧ Txt w B cs[j].2 its[j].v
def KyRow (w : World) (B : Nat) (v : Value) (ks : List (List Nat)) : Prop :=
  ∃ cs : List Value, cs.length = ks.length ∧ w.ownsRow B 27 1 v ks.length cs ∧ ∀ j (h : j < ks.length) (h' : j < cs.length), Txt w B cs[j] ks[j]
theorem ItRow.nil (w : World) (B : Nat) : ItRow w B (.slice none 0 0) [] := ⟨[], rfl, World.ownsRow_nil _ _ _ _, fun j h => absurd h (Nat.not_lt_zero _)⟩
theorem KyRow.nil (w : World) (B : Nat) : KyRow w B (.slice none 0 0) [] := ⟨[], rfl, World.ownsRow_nil _ _ _ _, fun j h => absurd h (Nat.not_lt_zero _)⟩
theorem Txt.onlyT {w w' : World} {B b : Nat} {v : Value} {c : Array Value} {T : TypeId} {fr : Nat × Nat} {l : List Nat} (h : Txt w B v l) (hb : w.heap[b]? = some (.cells c T fr)) (hT : 5 ≠ T) (ho : Only b w w') : Txt w' B v l := ⟨owns_only h.1 hb hT ho, h.2⟩
theorem ItRow.onlyT {w w' : World} {B b : Nat} {v : Value} {c : Array Value} {T : TypeId} {fr : Nat × Nat} {its : List NIt} (h : ItRow w B v its) (hb : w.heap[b]? = some (.cells c T fr)) (hT : 5 ≠ T ∧ 36 ≠ T) (ho : Only b w w') : ItRow w' B v its := by
  obtain ⟨cs, h1, h2, h3⟩ := h
  exact ⟨cs, h1, owns_only h2 hb hT.2 ho, fun j hj hj' => ⟨(h3 j hj hj').1.onlyT hb hT.1 ho, (h3 j hj hj').2.onlyT hb hT.1 ho⟩⟩
theorem ty_item : 5 ≠ 36 := by decide
theorem ty_row : 5 ≠ 27 := by decide
section
variable {w w' : World} {B : Nat} {v : Value}
theorem Txt.below' {l : List Nat} (h : Txt w B v l) (hb : Below w.heap.size w w') : Txt w' B v l := ⟨owns_below' h.1 hb, h.2⟩
theorem ItRow.below' {its : List NIt} (h : ItRow w B v its) (hb : Below w.heap.size w w') : ItRow w' B v its := by
  obtain ⟨cs, h1, h2, h3⟩ := h
  exact ⟨cs, h1, owns_below' h2 hb, fun j hj hj' => ⟨(h3 j hj hj').1.below' hb, (h3 j hj hj').2.below' hb⟩⟩
theorem KyRow.below' {ks : List (List Nat)} (h : KyRow w B v ks) (hb : Below w.heap.size w w') : KyRow w' B v ks := by
  obtain ⟨cs, h1, h2, h3⟩ := h
  exact ⟨cs, h1, owns_below' h2 hb, fun j hj hj' => (h3 j hj hj').below' hb⟩
end

theorem info_item : ∃ i, Try.prog.info? 36 = some i ∧ i.zero = some (.agg #[.slice none 0 0, .slice none 0 0]) ∧ i.size = 2 ∧ i.bytes = 48 := ⟨_, rfl, rfl, rfl, rfl⟩
theorem info_row : ∃ i, Try.prog.info? 27 = some i ∧ i.zero = some (.slice none 0 0) ∧ i.size = 1 ∧ i.bytes = 24 := ⟨_, rfl, rfl, rfl, rfl⟩
/-- One item more. -/
theorem ItRow.push {w : World} {B : Nat} {v a c : Value} {its : List NIt} {it : NIt} (h : ItRow w B v its) (hn : its.length ≤ 1000000) (hB : B ≤ w.heap.size) (ha : Txt w B a it.k) (hc : Txt w B c it.v) :
    ∃ v' w', (Builtin.append_ #[33, 33] 33 #[v, .slice (some ⟨w.heap.size, 0, none⟩) 1 1]).run Try.prog (w.alloc (.cells #[a, c] 36)) = .ok v' w' ∧ ItRow w' B v' (its ++ [it]) ∧ Grows w w' v v' := by
  obtain ⟨cs, h1, h2, h3⟩ := h
  obtain ⟨i, hi, hz, hs, hby⟩ := info_item
  obtain ⟨pa, ca, rfl, -⟩ := ha.bytes.any
  obtain ⟨pc, cc, rfl, -⟩ := hc.bytes.any
  obtain ⟨v', w', hr, ho, hg⟩ := run_append_grows (P := Try.prog) (w := w.alloc (.cells #[.slice pa it.k.length ca, .slice pc it.v.length cc] 36)) 33 (t := 33) (e := 36) (by kernel_rfl) hi hz hs hby rfl (by decide) B v its.length (cs.flatMap itCells) (h2.alloc _) w.heap.size 0 1 1 [.slice pa it.k.length ca, .slice pc it.v.length cc] rfl (by
    intro j u hu
    rw [Nat.zero_add]
    have := cells_of (heap_alloc_new w (.cells #[.slice pa it.k.length ca, .slice pc it.v.length cc] 36)) j
    rw [this]
    simpa using hu) (by simp [Value.oneCell']) (by unfold maxLen; omega) (by omega) (by simp; omega)
  have hga := (Grows.alloc w v (.cells #[.slice pa it.k.length ca, .slice pc it.v.length cc] 36)).trans hg
  have keep : ∀ {x : Value} {l : List Nat}, Txt w B x l → Txt w' B x l := fun hx => ⟨owns_grows hx.1 h2 ty_item hga, hx.2⟩
  refine ⟨v', w', hr, ⟨cs ++ [(.slice pa it.k.length ca, .slice pc it.v.length cc)], by simp [h1], by simpa [itCells] using ho, fun j hj hj' => ?_⟩, hga⟩
  by_cases hlt : j < its.length
  · rw [List.getElem_append_left hlt, List.getElem_append_left (by omega)]
    exact ⟨keep (h3 j hlt (by omega)).1, keep (h3 j hlt (by omega)).2⟩
  · obtain rfl : j = its.length := by simp at hj; omega
    rw [List.getElem_append_right (Nat.le_refl _), List.getElem_append_right (by omega)]
    simp only [h1, Nat.sub_self, List.getElem_singleton]
    exact ⟨keep ha, keep hc⟩
theorem flat_two {α : Type} {f : α → List Value} (hf : ∀ x, (f x).length = 2) : ∀ {xs : List α} {j i : Nat} (h : j < xs.length), i < 2 → (xs.flatMap f)[j * 2 + i]? = (f xs[j])[i]?
  | x :: xs, 0, i, _, hi => by
    rw [List.flatMap_cons, Nat.zero_mul, Nat.zero_add, List.getElem?_append_left (by rw [hf]; exact hi)]
    rfl
  | x :: xs, j + 1, i, h, hi => by
    rw [List.flatMap_cons, List.getElem?_append_right (by rw [hf]; omega), hf, show (j + 1) * 2 + i - 2 = j * 2 + i by omega]
    exact flat_two hf (by simpa using h) hi
/-- What is owned lies there. -/
theorem owns_at {w : World} {B s : Nat} {e : TypeId} {v : Value} {n : Nat} {xs : List Value} (h : w.ownsRow B e s v n xs) (hs : 0 < s) : ∃ p cap, v = .slice p n cap ∧ n ≤ cap ∧ cap ≤ maxLen ∧ ∀ j u, xs[j]? = some u → ∃ g, p = some ⟨g, 0, none⟩ ∧ w.cell? ⟨g, 0 + j, none⟩ = some u := by
  rcases h.2 with ⟨rfl, rfl⟩ | ⟨g, cap, cur, rfl, h1, h2, h3, h4, h5, h6⟩
  · refine ⟨none, 0, rfl, Nat.le_refl _, by decide, fun j u hu => ?_⟩
    have := h.1
    rw [Nat.zero_mul] at this
    rw [List.eq_nil_of_length_eq_zero this] at hu
    cases hu
  · refine ⟨_, cap, rfl, h3, h4, fun j u hu => ⟨g, rfl, ?_⟩⟩
    have := h.cells (g := g) rfl j u hu
    rw [Addr.add_lit] at this
    exact this
theorem ItRow.at_ {w : World} {B : Nat} {v : Value} {its : List NIt} (h : ItRow w B v its) : ∃ p cap, v = .slice p its.length cap ∧ RowAt KItem w p cap its := by
  obtain ⟨cs, h1, h2, h3⟩ := h
  obtain ⟨p, cap, rfl, q1, q2, q3⟩ := owns_at h2 (by decide)
  refine ⟨p, cap, rfl, q1, q2, fun j hj => ?_⟩
  have hj' : j < cs.length := by omega
  have e0 := flat_two (f := itCells) (fun _ => rfl) (xs := cs) (j := j) (i := 0) hj' (by decide)
  have e1 := flat_two (f := itCells) (fun _ => rfl) (xs := cs) (j := j) (i := 1) hj' (by decide)
  obtain ⟨g, rfl, c0⟩ := q3 _ cs[j].1 (by rw [e0]; rfl)
  obtain ⟨g', hg', c1⟩ := q3 _ cs[j].2 (by rw [e1]; rfl)
  obtain rfl : g = g' := by simpa using hg'
  refine ⟨g, 0, [cs[j].1, cs[j].2], rfl, fun i hi => ?_, cs[j].1, cs[j].2, rfl, (h3 j hj hj').1.bytes, (h3 j hj hj').2.bytes⟩
  match i, hi with
  | 0, _ => simpa [KItem] using c0
  | 1, _ => simpa [KItem, Nat.add_assoc] using c1
theorem KyRow.at_ {w : World} {B : Nat} {v : Value} {ks : List (List Nat)} (h : KyRow w B v ks) : ∃ p cap, v = .slice p ks.length cap ∧ RowAt KBytes w p cap ks := by
  obtain ⟨cs, h1, h2, h3⟩ := h
  obtain ⟨p, cap, rfl, q1, q2, q3⟩ := owns_at h2 (by decide)
  refine ⟨p, cap, rfl, q1, q2, fun j hj => ?_⟩
  have hj' : j < cs.length := by omega
  obtain ⟨g, rfl, c0⟩ := q3 j cs[j] (List.getElem?_eq_getElem hj')
  refine ⟨g, 0, [cs[j]], rfl, fun i hi => ?_, cs[j], rfl, (h3 j hj hj').bytes⟩
  match i, hi with
  | 0, _ => simpa [KBytes] using c0
end Go.Proofs.Ytnbnnonjbjbbkaa

