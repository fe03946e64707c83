/- The disk: its names, rising. -/
import Derived.Test.YtldkeelgnfegeaaGreatMDskZ
import Derived.Test.YtldkeelgnfegeaaGreatMIterB
import Derived.Sort.KeysCollected
import Derived.Sort.EncStr
import Derived.Maps.Own

namespace Go.Proofs.YtldkeelgnfegeaaGreat
open Go Go.RowKit Go.By Go.Maps Go.Sort Go.MapKept Go.WideElems

/-- A map of names, as the library's contracts speak of it. -/
theorem own_names {w : World} {b : Nat} {m : List (ByteArray × Nat)} (h : Mp.Is w b strV natV m) (hs : ∀ p ∈ m, p.1.size ≤ maxLen) (hm : m.length ≤ 1000000) :
    ∃ (D0 : DataW Unit) (nn : Nat), w.ownsMap Tryz.prog 9 (fun _ => some (DataW.nil, [])) b nn D0 ∧ (strKeys D0).Perm (m.map fun p => p.1.data.toList) ∧ Maps.size D0 = m.length := by
  have hst : Tryz.prog.underlying 9 = some .string := by kernel_rfl
  obtain ⟨⟨l, clock, hW, hl, hb1, hb2⟩, hn⟩ := h
  let R : Value → Option (DataW Unit × List MemPlace) := fun _ => some (DataW.nil, [])
  have hlen : l.toList.length = m.length := hl.length
  have hrd : ∀ (j : Nat) (x : MapEntry), l.toList[j]? = some x → ∃ p, m[j]? = some p ∧ rd Tryz.prog 9 R x = some (.string p.1.data.toList, .nil) := by
    intro j x hx
    obtain ⟨p, hp, hk, _⟩ := hl.at hx
    have hsz := hs p (List.mem_of_getElem? hp)
    refine ⟨p, hp, ?_⟩
    have hk' : x.key = .string p.1 := hk
    show (keyOf Tryz.prog 9 x.key).bind (fun key => (R x.val).map fun y => (key, y.1)) = _
    simp [keyOf, mapKey, hst, hk', R, hsz]
  have hrg : (l.toList.map (rg Tryz.prog 9 R)) = m.map fun p => (Lit.string p.1.data.toList, DataW.nil) := by
    apply List.ext_getElem?
    intro j
    simp only [List.getElem?_map]
    cases hx : l.toList[j]? with
    | none =>
      have : m[j]? = none := by
        rw [List.getElem?_eq_none_iff] at hx ⊢; omega
      simp [this]
    | some x =>
      obtain ⟨p, hp, hr⟩ := hrd j x hx
      simp [hp, rg, hr]
  refine ⟨.map ((l.toList.map (rg Tryz.prog 9 R)).foldr DataW.insert []), l.size, ⟨l, clock, hW, ⟨?_, ?_, ?_⟩, Nat.le_refl _, rfl⟩, ?_, ?_⟩
  · have : l.size ≤ 1000000 := by rw [← Array.length_toList, hlen]; exact hm
    unfold maxLen; omega
  · rw [stamped_iff]
    refine ⟨hb1, hb2, ?_⟩
    have hkeys : l.toList.map (·.key) = m.map fun p => Value.string p.1 := by
      have := congrArg (List.map (·.1)) hl
      simpa [Mp.Lies, List.map_map, Function.comp_def, strV] using this
    have : (l.toList.map (·.key)).Pairwise (· ≠ ·) := by
      rw [hkeys, List.pairwise_map]
      have hn' : m.Pairwise fun p q => p.1 ≠ q.1 := by
        have := hn
        unfold List.Nodup at this
        rwa [List.pairwise_map] at this
      refine hn'.imp ?_
      intro a b hab he
      apply hab
      simpa using he
    rwa [List.pairwise_map] at this
  · intro x hx
    obtain ⟨j, hj⟩ := List.mem_iff_getElem?.1 hx
    obtain ⟨p, _, hr⟩ := hrd j x hj
    exact ⟨_, hr⟩
  · simp only [strKeys]
    have := (WideShapes.sorted_perm (l.toList.map (rg Tryz.prog 9 R))).map fun p => strOf p.1
    refine this.trans ?_
    rw [hrg, List.map_map]
    exact List.Perm.refl _
  · rw [Maps.size_eq, (WideShapes.sorted_perm _).length_eq]
    rw [List.length_map, hlen]

/-- The names of a row of names, sorted. -/
def sortedNames (m : List (ByteArray × Nat)) : List (List UInt8) := (m.map fun p => p.1.data.toList).mergeSort (fun x y => decide (x ≤ y))

theorem leU_trans (x y z : List UInt8) : decide (x ≤ y) = true → decide (y ≤ z) = true → decide (x ≤ z) = true := by
  simp only [decide_eq_true_eq]; exact fun h1 h2 => List.le_trans h1 h2
theorem leU_total (x y : List UInt8) : (decide (x ≤ y) || decide (y ≤ x)) = true := by
  simp only [Bool.or_eq_true, decide_eq_true_eq]; exact List.le_total x y

theorem sorted_unique {l1 l2 : List (List UInt8)} (hp : l1.Perm l2) : l1.mergeSort (fun x y => decide (x ≤ y)) = l2.mergeSort (fun x y => decide (x ≤ y)) := by
  have q1 := List.pairwise_mergeSort (le := fun x y : List UInt8 => decide (x ≤ y)) leU_trans leU_total l1
  have q2 := List.pairwise_mergeSort (le := fun x y : List UInt8 => decide (x ≤ y)) leU_trans leU_total l2
  have hp2 : (l1.mergeSort (fun x y => decide (x ≤ y))).Perm (l2.mergeSort (fun x y => decide (x ≤ y))) := (List.mergeSort_perm l1 _).trans (hp.trans (List.mergeSort_perm l2 _).symm)
  exact List.Perm.eq_of_pairwise (fun a b _ _ h1 h2 => by simp only [decide_eq_true_eq] at h1 h2; exact List.le_antisymm h1 h2) q1 q2 hp2

set_option maxRecDepth 100000 in
theorem keys_any (r : Option Nat) (w : World) : Calls Tryz.prog 40 #[.map r] w fun e w' => e = .returned (.func (.func 66) #[] #[.pointer (some ⟨w.heap.size, 0, none⟩)]) ∧ w' = w.alloc (.cells #[.map r] 51) := by
  go_enter Tryz.func40, Tryz.ntmps40
  go_wp2
  go_ret
  exact ⟨rfl, rfl⟩

set_option maxRecDepth 100000 in
theorem list_any (own : Own) (a : Nat) (D : DiskA) (w : World) (h : DiskIs w own a D) (hs : ∀ p ∈ D.seen, p.1.size ≤ maxLen) (hm : D.seen.length ≤ 1000000) :
    Calls Tryz.prog 17 #[.pointer (some ⟨a, 0, none⟩)] w fun e w' => ∃ v, e = .returned v ∧ w'.ownsRow w.heap.size 9 1 v D.seen.length ((sortedNames D.seen).map encStr) ∧ (v = .slice none 0 0 ↔ D.seen = []) ∧ Below w.heap.size w w' := by
  obtain ⟨ms, mk, mf, lv, h1, h2⟩ := h.out
  have c4 : w.cell? ⟨a, 4, none⟩ = some ms := cells_of h1 4
  have hlt : a < w.heap.size := h.here a _ h.role
  have HS := Lib.hid hs; have HM := Lib.hid hm; have H2 := Lib.hid h2
  clear h1 h2 h hs hm
  go_enter Tryz.func17, Tryz.ntmps17
  obtain ⟨rm, rfl⟩ : ∃ r, ms = .map r := by
    rcases H2.out.seen with ⟨h, _⟩ | ⟨b, h, _⟩
    · exact ⟨_, h⟩
    · exact ⟨_, h⟩
  go_wp2_with fail
  refine (keys_any rm w).mono ?_
  rintro e w1 ⟨rfl, hw1⟩
  have hcell : w1.cell? ⟨w.heap.size, 0, none⟩ = some (.map rm) := by rw [hw1]; exact World.cell?_alloc_new w _ _ 0
  have hz : w1.heap.size = w.heap.size + 1 := by rw [hw1]; simp
  have hb1 : Below w.heap.size w w1 := by rw [hw1]; exact (Below.refl _ _).alloc (Nat.le_refl _) _
  clear hw1
  have hcall : Calls Tryz.prog 39 #[.func (.func 66) #[] #[.pointer (some ⟨w.heap.size, 0, none⟩)]] w1 fun e w' => ∃ (v : Value), e = .returned v ∧ w'.ownsRow w.heap.size 9 1 v D.seen.length ((sortedNames D.seen).map encStr) ∧ (v = .slice none 0 0 ↔ D.seen = []) ∧ Below w.heap.size w w' := by
    rcases H2.out.seen with ⟨he, hs0⟩ | ⟨b, he, _, hmb⟩ <;> cases he
    · refine (Tryz.sorted_keys_nil_at w.heap.size w1 hcell (by omega)).mono ?_
      rintro e w2 ⟨v, ss, rfl, rfl, hown, hnil, hb2⟩
      have hvn := hnil.2 rfl
      subst hvn
      exact ⟨_, rfl, by rw [hs0, show (sortedNames []).map encStr = [] by simp [sortedNames]]; exact World.ownsRow_nil _ _ _ _, by simp [hs0], hb1.trans (hb2.mono (by omega))⟩
    · have hmb1 : Mp.Is w1 b strV natV D.seen := hmb.of_heap (hb1.block b hmb.lt)
      obtain ⟨D0, nn, ho, hperm, hsz⟩ := own_names hmb1 HS.out HM.out
      refine (Tryz.sorted_keys_at w.heap.size b nn D0 _ w1 ho hcell (by omega) (by rw [hsz]; have := HM.out; unfold maxLen; omega) (by rw [hsz]; have := HM.out; omega)).mono ?_
      rintro e w2 ⟨v, ss, rfl, hp, hown, hnil, hb2⟩
      have hpp := hp.trans hperm
      have hll : ss.length = D.seen.length := by rw [hpp.length_eq, List.length_map]
      refine ⟨v, rfl, ?_, ?_, hb1.trans (hb2.mono (by omega))⟩
      · have he : ss.mergeSort (fun x y => decide (x ≤ y)) = sortedNames D.seen := sorted_unique hpp
        rw [he, hll] at hown
        refine ⟨hown.1, ?_⟩
        rcases hown.2 with hh | ⟨g, c, cur, q1, q2, q3⟩
        · exact .inl hh
        · exact .inr ⟨g, c, cur, q1, by omega, q3⟩
      · rw [hnil]
        constructor
        · intro h0; rw [h0] at hll; exact List.eq_nil_of_length_eq_zero hll.symm
        · intro h0; rw [h0] at hll; exact List.eq_nil_of_length_eq_zero hll
  have HC := Lib.hid hcall
  clear hcall hcell hz hb1 c4 hlt
  go_wp2_with fail
  refine HC.out.mono ?_
  rintro e w2 ⟨v, rfl, hown, hnil, hb⟩
  have HO := Lib.hid hown; have HN := Lib.hid hnil; have HB := Lib.hid hb
  clear hown hnil hb
  go_wp2
  go_ret
  exact ⟨_, rfl, HO.out, HN.out, HB.out⟩
end Go.Proofs.YtldkeelgnfegeaaGreat
