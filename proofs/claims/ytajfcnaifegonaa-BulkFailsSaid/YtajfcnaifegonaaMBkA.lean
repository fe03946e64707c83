/- Rows of items, of keys, of trees that are one's own. -/
import Derived.Test.YtajfcnaifegonaaMGrw
import Derived.Test.YtajfcnaifegonaaMNdO
import Derived.Test.YtajfcnaifegonaaMBodyR
import Derived.ArgAppend
namespace Go.By
open Go Go.RowKit
structure Only (A : Nat) (w w' : World) : Prop where
  os : w'.os = w.os
  tape : w'.tape = w.tape
  output : w'.output = w.output
  size : w.heap.size ≤ w'.heap.size
  block : ∀ k, k < w.heap.size → k ≠ A → w'.heap[k]? = w.heap[k]?
theorem Only.refl (A : Nat) (w : World) : Only A w w := ⟨rfl, rfl, rfl, Nat.le_refl _, fun _ _ _ => rfl⟩
theorem Only.of_below {A : Nat} {w w' : World} (h : Below w.heap.size w w') : Only A w w' := ⟨h.os, h.tape, h.output, h.size, fun k hk _ => h.block k hk⟩
theorem Only.trans {A : Nat} {w w1 w2 : World} (h : Only A w w1) (h2 : Only A w1 w2) : Only A w w2 :=
  ⟨h2.os.trans h.os, h2.tape.trans h.tape, h2.output.trans h.output, Nat.le_trans h.size h2.size, fun k hk hne => (h2.block k (Nat.lt_of_lt_of_le hk h.size) hne).trans (h.block k hk hne)⟩
theorem Only.set (A i : Nat) (w : World) (v : Value) : Only A w (w.setCell ⟨A, i, none⟩ v) :=
  ⟨rfl, rfl, rfl, by simp [World.setCell], fun k _ hne => heap_setCell_other w ⟨A, i, none⟩ k v hne⟩
theorem Only.drewN (A : Nat) (w : World) (n : Nat) : Only A w (w.drewN n) := ⟨rfl, rfl, rfl, Nat.le_refl _, fun _ _ _ => rfl⟩
theorem Only.alloc (A : Nat) (w : World) (o : Obj) : Only A w (w.alloc o) := Only.of_below ((Below.refl _ _).alloc (Nat.le_refl _) _)
theorem Below.only {B A : Nat} {w0 w w' : World} (h : Below B w0 w) (hB : B ≤ A) (hw : B ≤ w.heap.size) (h2 : Only A w w') : Below B w0 w' :=
  ⟨h2.os.trans h.os, h2.tape.trans h.tape, h2.output.trans h.output, Nat.le_trans h.size h2.size, fun k hk => (h2.block k (by omega) (by omega)).trans (h.block k hk)⟩
structure Only2 (A t : Nat) (w w' : World) : Prop where
  os : w'.os = w.os
  tape : w'.tape = w.tape
  output : w'.output = w.output
  size : w.heap.size ≤ w'.heap.size
  block : ∀ k, k < w.heap.size → k ≠ A → k ≠ t → w'.heap[k]? = w.heap[k]?
theorem Only.two {A : Nat} {w w' : World} (h : Only A w w') (t : Nat) : Only2 A t w w' := ⟨h.os, h.tape, h.output, h.size, fun k hk h1 _ => h.block k hk h1⟩
theorem Only2.trans {A t : Nat} {w w1 w2 : World} (h : Only2 A t w w1) (h2 : Only2 A t w1 w2) : Only2 A t w w2 :=
  ⟨h2.os.trans h.os, h2.tape.trans h.tape, h2.output.trans h.output, Nat.le_trans h.size h2.size, fun k hk hne hnt => (h2.block k (Nat.lt_of_lt_of_le hk h.size) hne hnt).trans (h.block k hk hne hnt)⟩
theorem Only2.set (A t i : Nat) (w : World) (v : Value) : Only2 A t w (w.setCell ⟨t, i, none⟩ v) :=
  ⟨rfl, rfl, rfl, by simp [World.setCell], fun k _ _ hne => heap_setCell_other w ⟨t, i, none⟩ k v hne⟩
theorem owns_stay {w w' : World} {base s : Nat} {e : TypeId} {v : Value} {n : Nat} {xs : List Value} (h : w.ownsRow base e s v n xs) (hk : ∀ k, v.ownBlock = some k → w'.heap[k]? = w.heap[k]?) : w'.ownsRow base e s v n xs := by
  refine ⟨h.1, ?_⟩
  rcases h.2 with h2 | ⟨g, cap, cur, h1, h2, h3, h4⟩
  · exact .inl h2
  · exact .inr ⟨g, cap, cur, h1, h2, (hk g (by rw [h1]; rfl)).trans h3, h4⟩
theorem owns_ne {w : World} {base s : Nat} {e T : TypeId} {v : Value} {n : Nat} {xs : List Value} (h : w.ownsRow base e s v n xs) {b : Nat} {c : Array Value} {fr : Nat × Nat} (hb : w.heap[b]? = some (.cells c T fr)) (hne : e ≠ T) : v.ownBlock ≠ some b := by
  intro he
  rcases h.2 with ⟨h2, _⟩ | ⟨g, cap, cur, h1, h2, h3, h4⟩
  · rw [h2] at he; cases he
  · rw [h1] at he
    obtain rfl : g = b := by simpa [Value.ownBlock] using he
    rw [h3] at hb
    simp only [Option.some.injEq, Obj.cells.injEq] at hb
    exact hne hb.2.1
theorem owns_apart {w : World} {base s base' s' : Nat} {e e' : TypeId} {v v' : Value} {n n' : Nat} {xs xs' : List Value} (h : w.ownsRow base e s v n xs) (h' : w.ownsRow base' e' s' v' n' xs') (hne : e ≠ e') : ∀ k, v.ownBlock = some k → v'.ownBlock ≠ some k := by
  intro k hk he
  rcases h'.2 with ⟨h2, _⟩ | ⟨g, cap, cur, h1, h2, h3, h4⟩
  · rw [h2] at he; cases he
  · rw [h1] at he
    obtain rfl : g = k := by simpa [Value.ownBlock] using he
    exact owns_ne h h3 hne hk
theorem owns_only {w w' : World} {base s b : Nat} {e T : TypeId} {v : Value} {n : Nat} {xs : List Value} {c : Array Value} {fr : Nat × Nat} (h : w.ownsRow base e s v n xs) (hb : w.heap[b]? = some (.cells c T fr)) (hne : e ≠ T) (ho : Only b w w') : w'.ownsRow base e s v n xs :=
  owns_stay h (fun k hk => ho.block k (h.lt k hk).2 (fun e => owns_ne h hb hne (by rw [hk, e])))
theorem owns_grows {w w' : World} {base s base' s' : Nat} {e e' : TypeId} {v u u' : Value} {n n' : Nat} {xs xs' : List Value} (h : w.ownsRow base e s v n xs) (h' : w.ownsRow base' e' s' u n' xs') (hne : e ≠ e') (hg : Grows w w' u u') : w'.ownsRow base e s v n xs :=
  owns_stay h (fun k hk => hg.block (h.lt k hk).2 (owns_apart h h' hne k hk))
theorem owns_below' {w w' : World} {base s : Nat} {e : TypeId} {v : Value} {n : Nat} {xs : List Value} (h : w.ownsRow base e s v n xs) (hb : Below w.heap.size w w') : w'.ownsRow base e s v n xs :=
  owns_stay h (fun k hk => hb.block k (h.lt k hk).2)
end Go.By
namespace Go.Proofs.Ytajfcnaifegonaa.Sl.Nd
open Go Go.RowKit Go.By
def Txt (w : World) (B : Nat) (v : Value) (l : List Nat) : Prop := w.ownsRow B 5 1 v l.length (cellsOf l) ∧ (∀ c ∈ l, c < 256) ∧ l.length ≤ maxLen
theorem Txt.bytes {w : World} {B : Nat} {v : Value} {l : List Nat} (h : Txt w B v l) : Bytes w v l := Bytes.of_owns h.1 h.2.1 h.2.2
theorem Txt.nil (w : World) (B : Nat) : Txt w B (.slice none 0 0) [] := ⟨World.ownsRow_nil _ _ _ _, by simp, by simp⟩
def itCells (c : Value × Value) : List Value := [c.1, c.2]
def ItRow (w : World) (B : Nat) (v : Value) (its : List NIt) : Prop :=
  ∃ cs : List (Value × Value), cs.length = its.length ∧ w.ownsRow B 34 2 v its.length (cs.flatMap itCells) ∧ ∀ j (h : j < its.length) (h' : j < cs.length), Txt w B cs[j].1 its[j].k ∧ Txt w B cs[j].2 its[j].v
def KyRow (w : World) (B : Nat) (v : Value) (ks : List (List Nat)) : Prop :=
  ∃ cs : List Value, cs.length = ks.length ∧ w.ownsRow B 31 1 v ks.length cs ∧ ∀ j (h : j < ks.length) (h' : j < cs.length), Txt w B cs[j] ks[j]
theorem ItRow.nil (w : World) (B : Nat) : ItRow w B (.slice none 0 0) [] := ⟨[], rfl, World.ownsRow_nil _ _ _ _, fun _j h => absurd h (Nat.not_lt_zero _)⟩
theorem KyRow.nil (w : World) (B : Nat) : KyRow w B (.slice none 0 0) [] := ⟨[], rfl, World.ownsRow_nil _ _ _ _, fun _j h => absurd h (Nat.not_lt_zero _)⟩
theorem Txt.onlyT {w w' : World} {B b : Nat} {v : Value} {c : Array Value} {T : TypeId} {fr : Nat × Nat} {l : List Nat} (h : Txt w B v l) (hb : w.heap[b]? = some (.cells c T fr)) (hT : 5 ≠ T) (ho : Only b w w') : Txt w' B v l := ⟨owns_only h.1 hb hT ho, h.2⟩
theorem ItRow.onlyT {w w' : World} {B b : Nat} {v : Value} {c : Array Value} {T : TypeId} {fr : Nat × Nat} {its : List NIt} (h : ItRow w B v its) (hb : w.heap[b]? = some (.cells c T fr)) (hT : 5 ≠ T ∧ 34 ≠ T) (ho : Only b w w') : ItRow w' B v its := by
  obtain ⟨cs, h1, h2, h3⟩ := h
  exact ⟨cs, h1, owns_only h2 hb hT.2 ho, fun j hj hj' => ⟨(h3 j hj hj').1.onlyT hb hT.1 ho, (h3 j hj hj').2.onlyT hb hT.1 ho⟩⟩
theorem ty_item : 5 ≠ 34 := by decide
theorem ty_row : 5 ≠ 31 := by decide
section
variable {w w' : World} {B : Nat} {v : Value}
theorem Txt.below' {l : List Nat} (h : Txt w B v l) (hb : Below w.heap.size w w') : Txt w' B v l := ⟨owns_below' h.1 hb, h.2⟩
theorem ItRow.below' {its : List NIt} (h : ItRow w B v its) (hb : Below w.heap.size w w') : ItRow w' B v its := by
  obtain ⟨cs, h1, h2, h3⟩ := h
  exact ⟨cs, h1, owns_below' h2 hb, fun j hj hj' => ⟨(h3 j hj hj').1.below' hb, (h3 j hj hj').2.below' hb⟩⟩
theorem KyRow.below' {ks : List (List Nat)} (h : KyRow w B v ks) (hb : Below w.heap.size w w') : KyRow w' B v ks := by
  obtain ⟨cs, h1, h2, h3⟩ := h
  exact ⟨cs, h1, owns_below' h2 hb, fun j hj hj' => (h3 j hj hj').below' hb⟩
end
set_option maxRecDepth 1000000 in
theorem info_item : ∃ i, Try.prog.info? 34 = some i ∧ i.zero = some (.agg #[.slice none 0 0, .slice none 0 0]) ∧ i.size = 2 ∧ i.bytes = 48 := ⟨_, rfl, rfl, rfl, rfl⟩
set_option maxRecDepth 1000000 in
theorem info_row : ∃ i, Try.prog.info? 31 = some i ∧ i.zero = some (.slice none 0 0) ∧ i.size = 1 ∧ i.bytes = 24 := ⟨_, rfl, rfl, rfl, rfl⟩
theorem ItRow.push {w : World} {B : Nat} {v a c : Value} {its : List NIt} {it : NIt} (h : ItRow w B v its) (hn : its.length ≤ 1000000) (hB : B ≤ w.heap.size) (ha : Txt w B a it.k) (hc : Txt w B c it.v) :
    ∃ v' w', (Builtin.append_ #[30, 30] 30 #[v, .slice (some ⟨w.heap.size, 0, none⟩) 1 1]).run Try.prog (w.alloc (.cells #[a, c] 34)) = .ok v' w' ∧ ItRow w' B v' (its ++ [it]) ∧ Grows w w' v v' := by
  obtain ⟨cs, h1, h2, h3⟩ := h
  obtain ⟨i, hi, hz, hs, hby⟩ := info_item
  obtain ⟨pa, ca, rfl, -⟩ := ha.bytes.any
  obtain ⟨pc, cc, rfl, -⟩ := hc.bytes.any
  obtain ⟨v', w', hr, ho, hg⟩ := run_append_grows (P := Try.prog) (w := w.alloc (.cells #[.slice pa it.k.length ca, .slice pc it.v.length cc] 34)) 30 (t := 30) (e := 34) (by kernel_rfl) hi hz hs hby rfl (by decide) B v its.length (cs.flatMap itCells) (h2.alloc _) w.heap.size 0 1 1 [.slice pa it.k.length ca, .slice pc it.v.length cc] rfl (by
    intro j u hu
    rw [Nat.zero_add]
    have := cells_of (heap_alloc_new w (.cells #[.slice pa it.k.length ca, .slice pc it.v.length cc] 34)) j
    rw [this]
    simpa using hu) (by simp [Value.oneCell']) (by unfold maxLen; omega) (by omega) (by simp; omega)
  have hga := (Grows.alloc w v (.cells #[.slice pa it.k.length ca, .slice pc it.v.length cc] 34)).trans hg
  have keep : ∀ {x : Value} {l : List Nat}, Txt w B x l → Txt w' B x l := fun hx => ⟨owns_grows hx.1 h2 ty_item hga, hx.2⟩
  refine ⟨v', w', hr, ⟨cs ++ [(.slice pa it.k.length ca, .slice pc it.v.length cc)], by simp [h1], by simpa [itCells] using ho, fun j hj hj' => ?_⟩, hga⟩
  by_cases hlt : j < its.length
  · rw [List.getElem_append_left hlt, List.getElem_append_left (by omega)]
    exact ⟨keep (h3 j hlt (by omega)).1, keep (h3 j hlt (by omega)).2⟩
  · obtain rfl : j = its.length := by simp at hj; omega
    rw [List.getElem_append_right (Nat.le_refl _), List.getElem_append_right (by omega)]
    simp only [h1, Nat.sub_self, List.getElem_singleton]
    exact ⟨keep ha, keep hc⟩
theorem KyRow.push {w : World} {B : Nat} {v a : Value} {ks : List (List Nat)} {k : List Nat} (h : KyRow w B v ks) (hn : ks.length ≤ 1000000) (hB : B ≤ w.heap.size) (ha : Txt w B a k) :
    ∃ v' w', (Builtin.append_ #[78, 78] 78 #[v, .slice (some ⟨w.heap.size, 0, none⟩) 1 1]).run Try.prog (w.alloc (.cells #[a] 31)) = .ok v' w' ∧ KyRow w' B v' (ks ++ [k]) ∧ Grows w w' v v' := by
  obtain ⟨cs, h1, h2, h3⟩ := h
  obtain ⟨i, hi, hz, hs, hby⟩ := info_row
  obtain ⟨pa, ca, rfl, -⟩ := ha.bytes.any
  obtain ⟨v', w', hr, ho, hg⟩ := run_append_grows (P := Try.prog) (w := w.alloc (.cells #[.slice pa k.length ca] 31)) 78 (t := 78) (e := 31) (by kernel_rfl) hi hz hs hby rfl (by decide) B v ks.length cs (h2.alloc _) w.heap.size 0 1 1 [.slice pa k.length ca] rfl (by
    intro j u hu
    rw [Nat.zero_add]
    have := cells_of (heap_alloc_new w (.cells #[.slice pa k.length ca] 31)) j
    rw [this]
    simpa using hu) (by simp [Value.oneCell']) (by unfold maxLen; omega) (by omega) (by simp; omega)
  have hga := (Grows.alloc w v (.cells #[.slice pa k.length ca] 31)).trans hg
  have keep : ∀ {x : Value} {l : List Nat}, Txt w B x l → Txt w' B x l := fun hx => ⟨owns_grows hx.1 h2 ty_row hga, hx.2⟩
  refine ⟨v', w', hr, ⟨cs ++ [.slice pa k.length ca], by simp [h1], by simpa using ho, fun j hj hj' => ?_⟩, hga⟩
  by_cases hlt : j < ks.length
  · rw [List.getElem_append_left hlt, List.getElem_append_left (by omega)]
    exact keep (h3 j hlt (by omega))
  · obtain rfl : j = ks.length := by simp at hj; omega
    rw [List.getElem_append_right (Nat.le_refl _), List.getElem_append_right (by omega)]
    simp only [h1, Nat.sub_self, List.getElem_singleton]
    exact keep ha
theorem flat_two {α : Type} {f : α → List Value} (hf : ∀ x, (f x).length = 2) : ∀ {xs : List α} {j i : Nat} (h : j < xs.length), i < 2 → (xs.flatMap f)[j * 2 + i]? = (f xs[j])[i]?
  | x :: xs, 0, i, _, hi => by
    rw [List.flatMap_cons, Nat.zero_mul, Nat.zero_add, List.getElem?_append_left (by rw [hf]; exact hi)]
    rfl
  | x :: xs, j + 1, i, h, hi => by
    rw [List.flatMap_cons, List.getElem?_append_right (by rw [hf]; omega), hf, show (j + 1) * 2 + i - 2 = j * 2 + i by omega]
    exact flat_two hf (by simpa using h) hi
theorem owns_at {w : World} {B s : Nat} {e : TypeId} {v : Value} {n : Nat} {xs : List Value} (h : w.ownsRow B e s v n xs) (_hs : 0 < s) : ∃ p cap, v = .slice p n cap ∧ n ≤ cap ∧ cap ≤ maxLen ∧ ∀ j u, xs[j]? = some u → ∃ g, p = some ⟨g, 0, none⟩ ∧ w.cell? ⟨g, 0 + j, none⟩ = some u := by
  rcases h.2 with ⟨rfl, rfl⟩ | ⟨g, cap, cur, rfl, h1, h2, h3, h4, h5, h6⟩
  · refine ⟨none, 0, rfl, Nat.le_refl _, by decide, fun j u hu => ?_⟩
    have := h.1
    rw [Nat.zero_mul] at this
    rw [List.eq_nil_of_length_eq_zero this] at hu
    cases hu
  · refine ⟨_, cap, rfl, h3, h4, fun j u hu => ⟨g, rfl, ?_⟩⟩
    have := h.cells (g := g) rfl j u hu
    rw [Addr.add_lit] at this
    exact this
theorem ItRow.at_ {w : World} {B : Nat} {v : Value} {its : List NIt} (h : ItRow w B v its) : ∃ p cap, v = .slice p its.length cap ∧ RowAt KItem w p cap its := by
  obtain ⟨cs, h1, h2, h3⟩ := h
  obtain ⟨p, cap, rfl, q1, q2, q3⟩ := owns_at h2 (by decide)
  refine ⟨p, cap, rfl, q1, q2, fun j hj => ?_⟩
  have hj' : j < cs.length := by omega
  have e0 := flat_two (f := itCells) (fun _ => rfl) (xs := cs) (j := j) (i := 0) hj' (by decide)
  have e1 := flat_two (f := itCells) (fun _ => rfl) (xs := cs) (j := j) (i := 1) hj' (by decide)
  obtain ⟨g, rfl, c0⟩ := q3 _ cs[j].1 (by rw [e0]; rfl)
  obtain ⟨g', hg', c1⟩ := q3 _ cs[j].2 (by rw [e1]; rfl)
  obtain rfl : g = g' := by simpa using hg'
  refine ⟨g, 0, [cs[j].1, cs[j].2], rfl, fun i hi => ?_, cs[j].1, cs[j].2, rfl, (h3 j hj hj').1.bytes, (h3 j hj hj').2.bytes⟩
  match i, hi with
  | 0, _ => simpa [KItem] using c0
  | 1, _ => simpa [KItem, Nat.add_assoc] using c1
theorem KyRow.at_ {w : World} {B : Nat} {v : Value} {ks : List (List Nat)} (h : KyRow w B v ks) : ∃ p cap, v = .slice p ks.length cap ∧ RowAt KBytes w p cap ks := by
  obtain ⟨cs, h1, h2, h3⟩ := h
  obtain ⟨p, cap, rfl, q1, q2, q3⟩ := owns_at h2 (by decide)
  refine ⟨p, cap, rfl, q1, q2, fun j hj => ?_⟩
  have hj' : j < cs.length := by omega
  obtain ⟨g, rfl, c0⟩ := q3 j cs[j] (List.getElem?_eq_getElem hj')
  refine ⟨g, 0, [cs[j]], rfl, fun i hi => ?_, cs[j], rfl, (h3 j hj hj').bytes⟩
  match i, hi with
  | 0, _ => simpa [KBytes] using c0
end Go.Proofs.Ytajfcnaifegonaa.Sl.Nd
/- Rows of trees that are one's own. -/
namespace Go.Proofs.Ytajfcnaifegonaa.Sl.Nd
open Go Go.RowKit Go.By
def kdCells (d : NKd) : List Value := [.int .i64 d.off, .int .u64 (d.ct : Nat)]
def KdRow (w : World) (B : Nat) (v : Value) (kids : List NKd) : Prop :=
  w.ownsRow B 39 2 v kids.length (kids.flatMap kdCells) ∧ ∀ d ∈ kids, d.off ≤ 9223372036854775807 ∧ d.ct < 18446744073709551616
theorem KdRow.nil (w : World) (B : Nat) : KdRow w B (.slice none 0 0) [] := ⟨World.ownsRow_nil _ _ _ _, by simp⟩
theorem KdRow.below' {w w' : World} {B : Nat} {v : Value} {kids : List NKd} (h : KdRow w B v kids) (hb : Below w.heap.size w w') : KdRow w' B v kids := ⟨owns_below' h.1 hb, h.2⟩
set_option maxRecDepth 1000000 in
theorem info_ref : ∃ i, Try.prog.info? 39 = some i ∧ i.zero = some (.agg #[.int .i64 0, .int .u64 0]) ∧ i.size = 2 ∧ i.bytes = 16 := ⟨_, rfl, rfl, rfl, rfl⟩
theorem KdRow.push {w : World} {B : Nat} {v : Value} {kids : List NKd} {d : NKd} (h : KdRow w B v kids) (hn : kids.length ≤ 1000000) (hB : B ≤ w.heap.size) (hd : d.off ≤ 9223372036854775807 ∧ d.ct < 18446744073709551616) :
    ∃ v' w', (Builtin.append_ #[79, 79] 79 #[v, .slice (some ⟨w.heap.size, 0, none⟩) 1 1]).run Try.prog (w.alloc (.cells #[.int .i64 d.off, .int .u64 (d.ct : Nat)] 39)) = .ok v' w' ∧ KdRow w' B v' (kids ++ [d]) ∧ Grows w w' v v' := by
  obtain ⟨h2, h3⟩ := h
  obtain ⟨i, hi, hz, hs, hby⟩ := info_ref
  obtain ⟨v', w', hr, ho, hg⟩ := run_append_grows (P := Try.prog) (w := w.alloc (.cells #[.int .i64 d.off, .int .u64 (d.ct : Nat)] 39)) 79 (t := 79) (e := 39) (by kernel_rfl) hi hz hs hby rfl (by decide) B v kids.length (kids.flatMap kdCells) (h2.alloc _) w.heap.size 0 1 1 [.int .i64 d.off, .int .u64 (d.ct : Nat)] rfl (by
    intro j u hu
    rw [Nat.zero_add]
    have := cells_of (heap_alloc_new w (.cells #[.int .i64 d.off, .int .u64 (d.ct : Nat)] 39)) j
    rw [this]
    simpa using hu) (by simp [Value.oneCell']) (by unfold maxLen; omega) (by omega) (by simp; omega)
  refine ⟨v', w', hr, ⟨by simpa [kdCells] using ho, fun x hx => ?_⟩, (Grows.alloc _ _ _).trans hg⟩
  rcases List.mem_append.1 hx with hx | hx
  · exact h3 x hx
  · obtain rfl : x = d := by simpa using hx
    exact hd
theorem KdRow.at_ {w : World} {B : Nat} {v : Value} {kids : List NKd} (h : KdRow w B v kids) : ∃ p cap, v = .slice p kids.length cap ∧ RowAt KRef w p cap kids := by
  obtain ⟨h2, h3⟩ := h
  obtain ⟨p, cap, rfl, q1, q2, q3⟩ := owns_at h2 (by decide)
  refine ⟨p, cap, rfl, q1, q2, fun j hj => ?_⟩
  have e0 := flat_two (f := kdCells) (fun _ => rfl) (xs := kids) (j := j) (i := 0) hj (by decide)
  have e1 := flat_two (f := kdCells) (fun _ => rfl) (xs := kids) (j := j) (i := 1) hj (by decide)
  obtain ⟨g, rfl, c0⟩ := q3 _ (.int .i64 kids[j].off) (by rw [e0]; rfl)
  obtain ⟨g', hg', c1⟩ := q3 _ (.int .u64 (kids[j].ct : Nat)) (by rw [e1]; rfl)
  obtain rfl : g = g' := by simpa using hg'
  refine ⟨g, 0, [.int .i64 kids[j].off, .int .u64 (kids[j].ct : Nat)], rfl, fun i hi => ?_, rfl, h3 _ (List.getElem_mem hj)⟩
  match i, hi with
  | 0, _ => simpa [KRef] using c0
  | 1, _ => simpa [KRef, Nat.add_assoc] using c1
end Go.Proofs.Ytajfcnaifegonaa.Sl.Nd
/- Rows of one's own from some place on in their block: appended to behind, cut off in front. -/
namespace Go.By
open Go Go.RowKit
theorem cellsT {w : World} {a : Nat} {c : Array Value} {t : TypeId} {fr : Nat × Nat} (h : w.heap[a]? = some (.cells c t fr)) (i : Nat) : w.cell? ⟨a, i, none⟩ = c[i]? := cell_of_row w a i c t fr h
theorem freeT {w : World} {a : Nat} {c : Array Value} {t : TypeId} (h : w.heap[a]? = some (.cells c t (0, 0))) (i : Nat) : w.frozen? ⟨a, i, none⟩ = false := frozen_of_row w a i c t h
def Tl (w : World) (e : TypeId) (s : Nat) (v : Value) (n : Nat) (xs : List Value) : Prop :=
  xs.length = n * s ∧ ((v = .slice none 0 0 ∧ n = 0) ∨ ∃ g off cap cur, v = .slice (some ⟨g, off, none⟩) n cap ∧ w.heap[g]? = some (.cells cur e (0, 0)) ∧ n ≤ cap ∧ cap ≤ maxLen ∧ off + cap * s ≤ cur.size ∧ ∀ j (h : j < xs.length), cur[off + j]? = some xs[j])
theorem Tl.nil (w : World) (e : TypeId) (s : Nat) : Tl w e s (.slice none 0 0) 0 [] := ⟨by simp, .inl ⟨rfl, rfl⟩⟩
theorem Tl.of_owns {w : World} {base s : Nat} {e : TypeId} {v : Value} {n : Nat} {xs : List Value} (h : w.ownsRow base e s v n xs) : Tl w e s v n xs := by
  refine ⟨h.1, ?_⟩
  rcases h.2 with h2 | ⟨g, cap, cur, h1, h2, h3, h4, h5, h6, h7⟩
  · exact .inl h2
  · refine .inr ⟨g, 0, cap, cur, h1, h3, h4, h5, by omega, fun j hj => ?_⟩
    have e1 : (cur.toList.take (n * s))[j]? = some xs[j] := by rw [h7, List.getElem?_eq_getElem hj]
    have hjn : j < n * s := by have := h.1; omega
    rw [List.getElem?_take_of_lt hjn] at e1
    simpa using e1
theorem Tl.stay {w w' : World} {e : TypeId} {s : Nat} {v : Value} {n : Nat} {xs : List Value} (h : Tl w e s v n xs) (hk : ∀ k, v.ownBlock = some k → w'.heap[k]? = w.heap[k]?) : Tl w' e s v n xs := by
  refine ⟨h.1, ?_⟩
  rcases h.2 with h2 | ⟨g, off, cap, cur, h1, h2, h3⟩
  · exact .inl h2
  · exact .inr ⟨g, off, cap, cur, h1, (hk g (by rw [h1]; rfl)).trans h2, h3⟩
theorem Tl.shape {w : World} {e : TypeId} {s : Nat} {v : Value} {n : Nat} {xs : List Value} (h : Tl w e s v n xs) : ∃ p c, v = .slice p n c ∧ n ≤ c ∧ c ≤ maxLen := by
  rcases h.2 with ⟨h1, h2⟩ | ⟨g, off, cap, cur, h1, h2, h3, h4, _⟩
  · exact ⟨none, 0, by rw [h1, h2], by omega, by decide⟩
  · exact ⟨_, cap, h1, h3, h4⟩
theorem Tl.block {w : World} {e : TypeId} {s : Nat} {v : Value} {n : Nat} {xs : List Value} (h : Tl w e s v n xs) {k : Nat} (hk : v.ownBlock = some k) : ∃ cur, w.heap[k]? = some (.cells cur e (0, 0)) := by
  rcases h.2 with ⟨h1, _⟩ | ⟨g, off, cap, cur, h1, h2, _⟩
  · rw [h1] at hk; cases hk
  · rw [h1] at hk
    obtain rfl : g = k := by simpa [Value.ownBlock] using hk
    exact ⟨cur, h2⟩
theorem Tl.lt {w : World} {e : TypeId} {s : Nat} {v : Value} {n : Nat} {xs : List Value} (h : Tl w e s v n xs) {k : Nat} (hk : v.ownBlock = some k) : k < w.heap.size := by
  obtain ⟨cur, h1⟩ := h.block hk
  exact (Array.getElem?_eq_some_iff.1 h1).1
theorem Tl.ne {w : World} {e T : TypeId} {s : Nat} {v : Value} {n : Nat} {xs : List Value} (h : Tl w e s v n xs) {b : Nat} {c : Array Value} {fr : Nat × Nat} (hb : w.heap[b]? = some (.cells c T fr)) (hne : e ≠ T) : v.ownBlock ≠ some b := by
  intro he
  obtain ⟨cur, h1⟩ := h.block he
  rw [h1] at hb
  simp only [Option.some.injEq, Obj.cells.injEq] at hb
  exact hne hb.2.1
theorem Tl.at_ {w : World} {e : TypeId} {s : Nat} {v : Value} {n : Nat} {xs : List Value} (h : Tl w e s v n xs) : ∃ p cap, v = .slice p n cap ∧ n ≤ cap ∧ cap ≤ maxLen ∧ ∀ j u, xs[j]? = some u → ∃ g off, p = some ⟨g, off, none⟩ ∧ w.cell? ⟨g, off + j, none⟩ = some u := by
  rcases h.2 with ⟨rfl, rfl⟩ | ⟨g, off, cap, cur, rfl, h2, h3, h4, h5, h6⟩
  · refine ⟨none, 0, rfl, Nat.le_refl _, by decide, fun j u hu => ?_⟩
    have := h.1
    rw [Nat.zero_mul] at this
    rw [List.eq_nil_of_length_eq_zero this] at hu
    cases hu
  · refine ⟨_, cap, rfl, h3, h4, fun j u hu => ⟨g, off, rfl, ?_⟩⟩
    obtain ⟨hj, rfl⟩ := List.getElem?_eq_some_iff.1 hu
    rw [cellsT h2]
    exact h6 j hj
theorem heap_setCells_self {g : Nat} {e : TypeId} : ∀ (vs : List Value) (o : Nat) (w : World) (cur : Array Value), w.heap[g]? = some (.cells cur e (0, 0)) → o + vs.length ≤ cur.size →
    ∃ cur', (w.setCells g o vs).heap[g]? = some (.cells cur' e (0, 0)) ∧ cur'.size = cur.size ∧ (∀ k, k < o ∨ o + vs.length ≤ k → cur'[k]? = cur[k]?) ∧ ∀ j (h : j < vs.length), cur'[o + j]? = some vs[j]
  | [], o, w, cur, hw, _ => ⟨cur, hw, rfl, fun _ _ => rfl, fun j h => by simp at h⟩
  | v :: r, o, w, cur, hw, hs => by
    simp only [List.length_cons] at hs
    obtain ⟨cur', h1, h2, h3, h4⟩ := heap_setCells_self r (o + 1) (w.setCell ⟨g, o, none⟩ v) (cur.setIfInBounds o v) (heap_setCell_same w g o cur e v hw) (by rw [Array.size_setIfInBounds]; omega)
    rw [Array.size_setIfInBounds] at h2
    refine ⟨cur', h1, h2, fun k hk => ?_, fun j hj => ?_⟩
    · simp only [List.length_cons] at hk
      rw [h3 k (by omega), Array.getElem?_setIfInBounds, if_neg (by omega)]
    · cases j with
      | zero =>
        rw [Nat.add_zero, h3 o (by omega), Array.getElem?_setIfInBounds, if_pos rfl, if_pos (by omega)]
        rfl
      | succ j =>
        have := h4 j (by simpa using hj)
        rw [show o + (j + 1) = o + 1 + j by omega]
        simpa using this
theorem setCells_sizeT (b : Nat) : ∀ (vs : List Value) (o : Nat) (w : World), (w.setCells b o vs).heap.size = w.heap.size ∧ (w.setCells b o vs).os = w.os ∧ (w.setCells b o vs).tape = w.tape ∧ (w.setCells b o vs).output = w.output ∧ ∀ k, k ≠ b → (w.setCells b o vs).heap[k]? = w.heap[k]?
  | [], _, _ => ⟨rfl, rfl, rfl, rfl, fun _ _ => rfl⟩
  | v :: r, o, w => by
    obtain ⟨h1, h2, h3, h4, h5⟩ := setCells_sizeT b r (o + 1) (w.setCell ⟨b, o, none⟩ v)
    refine ⟨h1.trans (by simp [World.setCell]), h2, h3, h4, fun k hk => (h5 k hk).trans (heap_setCell_other w ⟨b, o, none⟩ k v hk)⟩
theorem Tl.app {P : Program} {w : World} (ty : TypeId) {t e : TypeId} {i : TypeInfo} {z : Value} {s bytes : Nat} (ht : P.underlying t = some (.slice e)) (hi : P.info? e = some i) (hz : i.zero = some z)
    (hsize : i.size = s) (hby : i.bytes = bytes) (hzs : z.cells.size = s) (hs0 : 0 < s) {v : Value} {n : Nat} {xs : List Value} (h : Tl w e s v n xs) {b o c : Nat} {news : List Value} (hl : news.length = 1 * s) (hnews : ∀ j u, news[j]? = some u → w.cell? ⟨b, o + j, none⟩ = some u) (h1 : ∀ u ∈ news, u.oneCell' = true)
    (h63 : n + 1 ≤ maxLen) (hbytes : (n + 1) * bytes ≤ 140737488355328) :
    ∃ v' w', (Builtin.append_ #[t, t] ty #[v, .slice (some ⟨b, o, none⟩) 1 c]).run P w = .ok v' w' ∧ Tl w' e s v' (n + 1) (xs ++ news) ∧ Grows w w' v v' := by
  have hx := h.1
  rcases h.2 with ⟨rfl, rfl⟩ | ⟨g, off, cap, cur, rfl, h2, h3, h4, h5, h6⟩
  · have hxs : xs = [] := List.eq_nil_of_length_eq_zero (by rw [hx, Nat.zero_mul])
    subst hxs
    obtain ⟨v', w', r1, r2, r3⟩ := run_append_grows (P := P) (w := w) ty ht hi hz hsize hby hzs hs0 0 (.slice none 0 0) 0 [] (World.ownsRow_nil _ _ _ _) b o 1 c news hl hnews h1 h63 hbytes (Nat.zero_le _)
    exact ⟨v', w', r1, Tl.of_owns r2, r3⟩
  · by_cases hroom : n + 1 ≤ cap
    · have hfit : off + n * s + news.length ≤ cur.size := by
        have : (n + 1) * s ≤ cap * s := Nat.mul_le_mul_right _ hroom
        rw [Nat.add_mul] at this
        omega
      have hr := run_append_room_cells (P := P) w t ty e i ht hi g off n cap ⟨b, o, none⟩ 1 c news (by rw [hsize]; exact hl) (fun j u hu => by rw [Addr.add_lit]; exact hnews j u hu) h1 hroom
        (fun j hj => by rw [hsize, cellsT h2, Array.getElem?_eq_getElem (by omega)]; rfl) (fun j hj => by rw [hsize]; exact freeT h2 _)
      rw [hsize] at hr
      obtain ⟨cur', q1, q2, q3, q4⟩ := heap_setCells_self (e := e) news (off + n * s) w cur h2 hfit
      obtain ⟨z1, z2, z3, z4, z5⟩ := setCells_sizeT g news (off + n * s) w
      refine ⟨_, _, hr, ⟨by rw [List.length_append, hx, hl, Nat.add_mul], .inr ⟨g, off, cap, cur', rfl, q1, hroom, h4, by omega, fun j hj => ?_⟩⟩, ⟨⟨z2, z3, z4, by omega, fun k _ hk => z5 k (fun e => hk (by rw [e]; rfl))⟩, .inl rfl⟩⟩
      by_cases hjx : j < xs.length
      · rw [List.getElem_append_left hjx, q3 _ (.inl (by omega))]
        exact h6 j hjx
      · rw [List.getElem_append_right (by omega)]
        have hj2 : j - xs.length < news.length := by rw [List.length_append] at hj; omega
        have := q4 (j - xs.length) hj2
        rw [show off + n * s + (j - xs.length) = off + j by omega] at this
        exact this
    · obtain ⟨v', w', r1, r2, r3⟩ := run_append_arg_grows (P := P) w t ty e i z s bytes ht hi hz hsize hby hzs hs0 ⟨g, off, none⟩ n cap xs hx (fun j u hu => by
        rw [Addr.add_lit, cellsT h2]
        obtain ⟨hj, rfl⟩ := List.getElem?_eq_some_iff.1 hu
        exact h6 j hj) ⟨b, o, none⟩ 1 c news hl (fun j u hu => by rw [Addr.add_lit]; exact hnews j u hu) (by omega) h63 hbytes
      refine ⟨v', w', r1, Tl.of_owns r2, ⟨r3.os, r3.tape, r3.output, r3.size, fun k hk _ => r3.block k hk (by simp)⟩, ?_⟩
      rcases r2.2 with ⟨_, hn⟩ | ⟨g', cap', cur', e1, e2, _⟩
      · omega
      · exact .inr ⟨g', by rw [e1]; rfl, e2⟩
theorem Tl.cut {P : Program} {t : TypeId} {s : Nat} (T : RowT P t s) {w : World} {e : TypeId} {p : Option Addr} {c n : Nat} {xs : List Value} (h : Tl w e s (.slice p n c) n xs) (m : Nat) (hm : m ≤ n) :
    (∀ w0 : World, (Instr.slice t (.slice p n c) none (some (.int .i64 (m : Nat))) none).run P w0 = .ok (.slice p m c) w0) ∧ Tl w e s (.slice p m c) m (xs.take (m * s)) ∧
      ∃ q d, (∀ w0 : World, (Instr.slice t (.slice p n c) (some (.int .i64 (m : Nat))) none none).run P w0 = .ok (.slice q (n - m) d) w0) ∧ Tl w e s (.slice q (n - m) d) (n - m) (xs.drop (m * s)) ∧ (Value.slice q (n - m) d).ownBlock = (Value.slice p n c).ownBlock := by
  have hx := h.1
  have e2 : ((m : Nat) : Int).toNat = m := by omega
  have hms : m * s ≤ n * s := Nat.mul_le_mul_right _ hm
  rcases h.2 with ⟨h1, rfl⟩ | ⟨g, off, cap, cur, h1, h2, h3, h4, h5, h6⟩
  · obtain rfl : m = 0 := by omega
    simp only [Value.slice.injEq] at h1
    obtain ⟨rfl, -, rfl⟩ := h1
    have hxs : xs = [] := List.eq_nil_of_length_eq_zero (by rw [hx, Nat.zero_mul])
    subst hxs
    have hr := fun w0 => run_slice_h (P := P) w0 t none 0 0 T.slice .i64 ((0 : Nat) : Int) (by omega) (by omega)
    have hr2 := fun w0 => run_slice_l (P := P) w0 t none 0 0 T.slice .i64 ((0 : Nat) : Int) (by omega) (by omega)
    simp only [T.size, Result.andThen, e2, sliced, Nat.zero_mul, Nat.sub_zero] at hr hr2
    refine ⟨fun w0 => by rw [hr]; rfl, ⟨by simp, .inl ⟨rfl, rfl⟩⟩, none, 0, fun w0 => by rw [hr2]; rfl, ⟨by simp, .inl ⟨rfl, rfl⟩⟩, rfl⟩
  · simp only [Value.slice.injEq] at h1
    obtain ⟨rfl, -, rfl⟩ := h1
    have hr := fun w0 => run_slice_h (P := P) w0 t (some ⟨g, off, none⟩) n c T.slice .i64 ((m : Nat) : Int) (by omega) (by omega)
    have hr2 := fun w0 => run_slice_l (P := P) w0 t (some ⟨g, off, none⟩) n c T.slice .i64 ((m : Nat) : Int) (by omega) (by omega)
    simp only [T.size, Result.andThen, e2, sliced, Nat.zero_mul, Nat.sub_zero] at hr hr2
    refine ⟨fun w0 => ?_, ⟨by rw [List.length_take, hx]; omega, .inr ⟨g, off, c, cur, rfl, h2, by omega, h4, h5, fun j hj => ?_⟩⟩, ?_⟩
    · rw [hr]
      congr 2
      split
      · rfl
      · simp [Addr.add]
    · rw [List.getElem_take]
      exact h6 j (by rw [List.length_take] at hj; omega)
    · by_cases hcm : c = m
      · refine ⟨some ⟨g, off, none⟩, c - m, fun w0 => by rw [hr2, if_pos hcm], ⟨by rw [List.length_drop, hx, Nat.sub_mul], .inr ⟨g, off, c - m, cur, rfl, h2, by omega, by omega, ?_, fun j hj => ?_⟩⟩, rfl⟩
        · rw [hcm, Nat.sub_self, Nat.zero_mul]; omega
        · rw [List.length_drop, hx] at hj
          have : n = m := by omega
          rw [this] at hj
          omega
      · refine ⟨some ⟨g, off + m * s, none⟩, c - m, fun w0 => by rw [hr2, if_neg hcm]; simp [Addr.add], ⟨by rw [List.length_drop, hx, Nat.sub_mul], .inr ⟨g, off + m * s, c - m, cur, rfl, h2, by omega, by omega, ?_, fun j hj => ?_⟩⟩, rfl⟩
        · rw [Nat.sub_mul]
          have : m * s ≤ c * s := Nat.mul_le_mul_right _ (by omega)
          omega
        · rw [List.getElem_drop, Nat.add_assoc]
          exact h6 _ (by rw [List.length_drop] at hj; omega)
theorem flat_takeN {α : Type} {f : α → List Value} {s : Nat} (hf : ∀ x, (f x).length = s) : ∀ (xs : List α) (m : Nat), (xs.flatMap f).take (m * s) = (xs.take m).flatMap f
  | [], m => by simp
  | x :: xs, 0 => by simp
  | x :: xs, m + 1 => by
    rw [List.flatMap_cons, List.take_succ_cons, List.flatMap_cons, List.take_append, hf, Nat.add_mul, Nat.one_mul, List.take_of_length_le (by rw [hf]; omega), show m * s + s - s = m * s by omega, flat_takeN hf xs m]
theorem flat_dropN {α : Type} {f : α → List Value} {s : Nat} (hf : ∀ x, (f x).length = s) : ∀ (xs : List α) (m : Nat), (xs.flatMap f).drop (m * s) = (xs.drop m).flatMap f
  | [], m => by simp
  | x :: xs, 0 => by simp
  | x :: xs, m + 1 => by
    rw [List.flatMap_cons, List.drop_succ_cons, List.drop_append, hf, Nat.add_mul, Nat.one_mul, List.drop_of_length_le (by rw [hf]; omega), show m * s + s - s = m * s by omega, flat_dropN hf xs m, List.nil_append]
end Go.By
