/- Trees in a program: the document's, read whole out of a file's bytes. -/
import Derived.Test.YtajfcnaifegonaaMTkA
import Derived.Test.YtajfcnaifegonaaMTrU
import Derived.Test.YtajfcnaifegonaaMTrX
import Derived.Test.YtajfcnaifegonaaMRecG
namespace Go.By
open Go Go.RowKit
theorem takeNd_mayB {l : List Nat} {n : Nd} (h : takeNd l = some n) : mayNd n = true := by
  have told : ∀ {a : Nd} {s : List Nat}, ndTold a s = some n → mayNd n = true := fun {a s} h => by
    cases s with
    | nil =>
      have h' : (if mayNd a = true then some a else none) = some n := h
      split at h'
      · cases h'; assumption
      · cases h'
    | cons _ _ => cases h
  match l, h with
  | [], h => cases h
  | [_], h => cases h
  | k :: c :: r, ht =>
    unfold takeNd at ht
    dsimp only at ht
    split at ht
    · unfold ndBody at ht
      rw [if_pos rfl] at ht
      cases hp : pMany pIt c r with
      | none => rw [hp] at ht; cases ht
      | some x => rw [hp] at ht; exact told ht
    · split at ht
      · unfold ndBody at ht
        rw [if_neg (by decide)] at ht
        cases hp : pMany pKd c r with
        | none => rw [hp] at ht; cases ht
        | some x => rw [hp] at ht; exact told ht
      · cases ht
theorem sumK_may {n : Nd} (hm : mayNd n = true) : sumK n.kids ≤ 8796093022208 := by
  have h : ∀ (l : List NKd), (∀ d ∈ l, mayKd d = true) → sumK l ≤ l.length * 1099511627776 := by
    intro l
    induction l with
    | nil => intro _; simp [sumK]
    | cons d r ih =>
      intro h
      have := ih (fun x hx => h x (List.mem_cons_of_mem _ hx))
      have h2 := ((mayKd_iff d).1 (h d List.mem_cons_self)).2.2
      rw [sumK, List.length_cons]; omega
  cases hl : n.leaf with
  | true => rw [(may_lf hl hm).2.2.2.2]; simp [sumK]
  | false =>
    obtain ⟨h1, _, _, _, h5, _⟩ := may_in hl hm
    have := h n.kids h5
    omega
theorem nodeIn_at {K : List Nat} {N ct : Nat} (h : 256 ≤ N) : nodeIn K (N : Int) ct = if isRec (K.drop N) = true ∧ atB (K.drop N) 4 = 2 then (match takeNd (pc (K.drop N) 5 (bodyLen (K.drop N))) with
    | none => none
    | some n => if cntN n = ct then some n else none) else none := by
  unfold nodeIn nodeOf
  by_cases hl : (K.length : Int) ≤ N
  · rw [if_pos (.inr hl)]
    have e : K.drop N = [] := List.drop_eq_nil_of_le (by omega)
    rw [if_neg (by rw [e]; intro h; have := Go.Proofs.Ytajfcnaifegonaa.Rc.isRec_short (l := []) (by decide); rw [this] at h; cases h.1)]
  · rw [if_neg (by omega), Int.toNat_natCast]
    rfl
theorem docT_out {K : List Nat} {f : Nat} {off : Int} {ct : Nat} {root : Bool} (h : off < 256 ∨ (K.length : Int) < off ∨ f = 0) : docT K f off ct root = none := by
  cases f with
  | zero => rfl
  | succ f =>
    unfold docT nodeIn
    rw [if_pos (by omega)]
theorem kidsT_drop {rec : NKd → Option (List NIt × Nat)} {ks : List (List Nat)} {kids : List NKd} (hl : ks.length = kids.length) {k : Nat} (hk : k < kids.length) (all : List NIt) (d : Nat) :
    kidsT rec ((ks.zip kids).drop k) all d = match rec kids[k] with
      | none => none
      | some (l, h) => if okKid (ks[k]'(by omega)) l h all d = true then kidsT rec ((ks.zip kids).drop (k + 1)) (all ++ l) h else none := by
  rw [List.drop_eq_getElem_cons (by rw [List.length_zip]; omega), List.getElem_zip, kidsT]
  rfl
theorem kidsT_stepX {rec : NKd → Option (List NIt × Nat)} {ks : List (List Nat)} {kids : List NKd} (hl : ks.length = kids.length) {k : Nat} (hk : k < kids.length) (all : List NIt) (d : Nat) {Dk : NKd} {Kk : List Nat} {R : Option (List NIt × Nat)} (hD : Dk = kids[k]) (hK : Kk = ks[k]'(by omega)) (hR : R = rec Dk) :
    (R = none → kidsT rec ((ks.zip kids).drop k) all d = none) ∧ ∀ l h, R = some (l, h) → kidsT rec ((ks.zip kids).drop k) all d = if okKid Kk l h all d = true then kidsT rec ((ks.zip kids).drop (k + 1)) (all ++ l) h else none := by
  rw [kidsT_drop hl hk]
  subst hD hK
  constructor
  · intro h
    rw [← hR, h]
  · intro l h e
    rw [← hR, e]
end Go.By
namespace Go.Proofs.Ytajfcnaifegonaa.Sl.Nd
open Go Go.RowKit Go.By
theorem ItRow.app {w : World} {B : Nat} {v xv : Value} {its l : List NIt} (h : ItRow w B v its) (hx : ItRow w B xv l) (h0 : 0 < l.length) (hn : its.length + l.length ≤ 2200000) (hB : B ≤ w.heap.size) :
    ∃ p' c' w', (Builtin.append_ #[30, 30] 30 #[v, xv]).run Try.prog w = .ok (.slice p' (its.length + l.length) c') w' ∧ ItRow w' B (.slice p' (its.length + l.length) c') (its ++ l) ∧ Grows w w' v (.slice p' (its.length + l.length) c') := by
  obtain ⟨cs, h1, h2, h3⟩ := h
  obtain ⟨ds, d1, d2, d3⟩ := hx
  obtain ⟨i, hi, hz, hs, hby⟩ := info_item
  obtain ⟨p, cap, rfl, q1, q2, q3⟩ := owns_at d2 (by decide)
  obtain ⟨g, rfl, -⟩ := q3 0 _ (List.getElem?_eq_getElem (by cases ds with
    | nil => simp at d1; omega
    | cons x r => rw [List.flatMap_cons, List.length_append]; show 0 < 2 + _; omega))
  obtain ⟨v', w', hr, ho, hg⟩ := run_append_grows (P := Try.prog) (w := w) 30 (t := 30) (e := 34) (by kernel_rfl) hi hz hs hby rfl (by decide) B v its.length (cs.flatMap itCells) h2 g 0 l.length cap (ds.flatMap itCells) (by
    rw [← d1]
    have : ∀ ds : List (Value × Value), (ds.flatMap itCells).length = ds.length * 2 := fun ds => by
      induction ds with
      | nil => rfl
      | cons x r ih => rw [List.flatMap_cons, List.length_append, ih, List.length_cons]; show 2 + _ = _; omega
    exact this ds) (fun j u hu => by obtain ⟨g', e, hc⟩ := q3 j u hu; cases e; exact hc) (by
    intro u hu
    obtain ⟨x, hx, hux⟩ := List.mem_flatMap.1 hu
    obtain ⟨j, hj, rfl⟩ := List.getElem_of_mem hx
    obtain ⟨t1, t2⟩ := d3 j (by omega) hj
    obtain ⟨pa, ca, e1, -⟩ := t1.bytes.any
    obtain ⟨pb, cb, e2, -⟩ := t2.bytes.any
    unfold itCells at hux
    rw [e1, e2] at hux
    simp at hux
    rcases hux with rfl | rfl <;> rfl) (by unfold maxLen; omega) (by omega) hB
  obtain ⟨p', c', rfl, -⟩ := owns_at ho (by decide)
  have keep : ∀ {x : Value} {t : List Nat}, Txt w B x t → Txt w' B x t := fun hx => ⟨owns_grows hx.1 h2 ty_item hg, hx.2⟩
  refine ⟨p', c', w', hr, ⟨cs ++ ds, by simp [h1, d1], by rw [List.length_append, List.flatMap_append]; exact ho, fun j hj hj' => ?_⟩, hg⟩
  by_cases hlt : j < its.length
  · rw [List.getElem_append_left hlt, List.getElem_append_left (by omega)]
    exact ⟨keep (h3 j hlt (by omega)).1, keep (h3 j hlt (by omega)).2⟩
  · rw [List.getElem_append_right (by omega), List.getElem_append_right (by omega)]
    have hjl : j - its.length < l.length := by rw [List.length_append] at hj; omega
    have e : j - cs.length = j - its.length := by rw [h1]
    simp only [e]
    exact ⟨keep (d3 _ hjl (by omega)).1, keep (d3 _ hjl (by omega)).2⟩
theorem owns_weaken {w : World} {B B' s : Nat} {e : TypeId} {v : Value} {n : Nat} {xs : List Value} (h : w.ownsRow B e s v n xs) (hB : B' ≤ B) : w.ownsRow B' e s v n xs := by
  obtain ⟨h1, h2⟩ := h
  refine ⟨h1, ?_⟩
  rcases h2 with h | ⟨g, cap, cur, a, b, c⟩
  · exact .inl h
  · exact .inr ⟨g, cap, cur, a, Nat.le_trans hB b, c⟩
theorem ItRow.weaken {w : World} {B B' : Nat} {v : Value} {its : List NIt} (h : ItRow w B v its) (hB : B' ≤ B) : ItRow w B' v its := by
  obtain ⟨cs, h1, h2, h3⟩ := h
  exact ⟨cs, h1, owns_weaken h2 hB, fun j h h' => ⟨⟨owns_weaken (h3 j h h').1.1 hB, (h3 j h h').1.2⟩, ⟨owns_weaken (h3 j h h').2.1 hB, (h3 j h h').2.2⟩⟩⟩
theorem rest_run {w : World} {p : Option Addr} {cap i : Nat} {l : List Nat} (h : Bytes w (.slice p l.length cap) l) (hi : i ≤ l.length) :
    ∃ q c, (∀ w0 : World, (Instr.slice 31 (.slice p l.length cap) (some (.int .i64 (i : Int))) none none).run Try.prog w0 = .ok (.slice q (l.length - i) c) w0) ∧ Bytes w (.slice q (l.length - i) c) (l.drop i) := by
  obtain ⟨q, c, h1, h2⟩ := piece_run h i (l.length - i) (by omega)
  have hcap := h.room.2
  refine ⟨q, c, fun w0 => ?_, ?_⟩
  · have e1 := h1 w0
    rw [run_slice_lh (P := Try.prog) w0 31 p l.length cap (by kernel_rfl) .i64 .i64 (i : Int) ((i : Int) + ((l.length - i : Nat) : Int)) (by omega) (by omega) (by omega)] at e1
    rw [run_slice_l (P := Try.prog) w0 31 p l.length cap (by kernel_rfl) .i64 (i : Int) (by omega) (by omega)]
    rw [show ((i : Int) + ((l.length - i : Nat) : Int)).toNat = l.length by omega] at e1
    exact e1
  · have e : pc l i (l.length - i) = l.drop i := by
      unfold pc
      exact List.take_of_length_le (by rw [List.length_drop]; exact Nat.le_refl _)
    rw [← e]
    exact h2
def DcTold (w : World) (X : Option (List NIt × Nat)) (z : Ending) (w' : World) : Prop :=
  Below w.heap.size w w' ∧ ((X = none ∧ z = .returned (.tuple #[.slice none 0 0, .int .i64 0, .int .i64 2])) ∨ ∃ l h p c, X = some (l, h) ∧ z = .returned (.tuple #[.slice p l.length c, .int .i64 (h : Nat), .int .i64 0]) ∧ ItRow w' w.heap.size (.slice p l.length c) l)
def DcLoop (wz : World) (rec : NKd → Option (List NIt × Nat)) (K : List Nat) (ks : List (List Nat)) (kids : List NKd) (X : Option (List NIt × Nat)) (av dv i : Value) (wr : World) : Prop :=
  ∃ (k d : Nat) (all : List NIt), k ≤ kids.length ∧ i = .int .i64 k ∧ dv = .int .i64 (d : Nat) ∧ d < 1000 ∧ ItRow wr wz.heap.size av all ∧ (all = [] ↔ k = 0) ∧ all.Pairwise BelowIt ∧ (∀ j ∈ all, Has K j.k) ∧ X = kidsT rec ((ks.zip kids).drop k) all d ∧ Below wz.heap.size wz wr
theorem run_geqD (s t : ByteArray) (w : World) : (binOp .geq 9 (.string s) (.string t)).run Try.prog w = .ok (.bool (!Op.bytesLess s.toList t.toList)) w := by kernel_rfl
end Go.Proofs.Ytajfcnaifegonaa.Sl.Nd
