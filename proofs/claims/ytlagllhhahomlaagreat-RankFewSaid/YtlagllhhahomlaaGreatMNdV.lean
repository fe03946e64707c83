/- Nodes in a program: the reader's four parts. -/
import Derived.Test.YtlagllhhahomlaaGreatMLfF
import Derived.Laws.EntriesVeiled
namespace Go.By
open Go Go.RowKit
theorem pMany_snoc {α : Type} {p : List Nat → Option (α × List Nat)} {x : α} {r' : List Nat} : ∀ {k : Nat} {l : List Nat} {xs : List α} {r : List Nat}, pMany p k l = some (xs, r) → p r = some (x, r') → pMany p (k + 1) l = some (xs ++ [x], r')
  | 0, l, xs, r, h, hp => by
    rw [pMany, Option.some.injEq, Prod.mk.injEq] at h
    obtain ⟨rfl, rfl⟩ := h
    rw [pMany, hp]
    rfl
  | k + 1, l, xs, r, h, hp => by
    rw [pMany] at h
    cases h1 : p l with
    | none => rw [h1] at h; cases h
    | some y =>
      obtain ⟨y, s⟩ := y
      rw [h1] at h
      dsimp only at h
      cases h2 : pMany p k s with
      | none => rw [h2] at h; cases h
      | some z =>
        obtain ⟨ys, t⟩ := z
        rw [h2] at h
        simp only [Option.some.injEq, Prod.mk.injEq] at h
        obtain ⟨rfl, rfl⟩ := h
        rw [pMany, h1]
        dsimp only
        rw [pMany_snoc h2 hp]
        rfl
theorem pMany_snoc_no {α : Type} {p : List Nat → Option (α × List Nat)} : ∀ {k : Nat} {l : List Nat} {xs : List α} {r : List Nat}, pMany p k l = some (xs, r) → p r = none → pMany p (k + 1) l = none
  | 0, l, xs, r, h, hp => by
    rw [pMany, Option.some.injEq, Prod.mk.injEq] at h
    obtain ⟨rfl, rfl⟩ := h
    rw [pMany, hp]
  | k + 1, l, xs, r, h, hp => by
    rw [pMany] at h
    cases h1 : p l with
    | none => rw [h1] at h; cases h
    | some y =>
      obtain ⟨y, s⟩ := y
      rw [h1] at h
      dsimp only at h
      cases h2 : pMany p k s with
      | none => rw [h2] at h; cases h
      | some z =>
        obtain ⟨ys, t⟩ := z
        rw [h2] at h
        simp only [Option.some.injEq, Prod.mk.injEq] at h
        obtain ⟨rfl, rfl⟩ := h
        rw [pMany, h1]
        dsimp only
        rw [pMany_snoc_no h2 hp]
theorem pMany_none_succ {α : Type} {p : List Nat → Option (α × List Nat)} : ∀ {k : Nat} {l : List Nat}, pMany p k l = none → pMany p (k + 1) l = none
  | 0, l, h => by cases h
  | k + 1, l, h => by
    rw [pMany] at h
    rw [pMany]
    cases h1 : p l with
    | none => rfl
    | some y =>
      obtain ⟨y, s⟩ := y
      rw [h1] at h
      dsimp only at h ⊢
      cases h2 : pMany p k s with
      | none => rw [pMany_none_succ h2]
      | some z =>
        rw [h2] at h
        cases h
end Go.By
namespace Go.Proofs.YtlagllhhahomlaaGreat.Sl.Nd
open Go Go.RowKit Go.By
structure OneTake {α : Type} (w0 : World) (b : Nat) (l : List Nat) (p : List Nat → Option (α × List Nat)) (f : FuncId) (S : World → Nat → List α → Prop) : Prop where
  enter : ∀ args w, (callFunc f args).run Tryz.prog w = .ok (.enter f args) w
  cell : ∀ w i xs, S w i xs → w.cell? ⟨b, 6, none⟩ = some (.func (.func f) #[.pointer (some ⟨b, 0, none⟩)] #[])
  below : ∀ w i xs, S w i xs → Below w0.heap.size w0 w
  take : ∀ w i xs, S w i xs → i ≤ l.length → xs.length ≤ 1000 → Calls Tryz.prog f #[.pointer (some ⟨b, 0, none⟩)] w fun e w' => ∃ x i' ok, e = .returned (.bool ok) ∧ S w' i' (xs ++ [x]) ∧ i' ≤ l.length ∧ ((ok = true ∧ p (l.drop i) = some (x, l.drop i')) ∨ (ok = false ∧ p (l.drop i) = none))
def EachRel {α : Type} (w0 : World) (l : List Nat) (p : List Nat → Option (α × List Nat)) (S : World → Nat → List α → Prop) (y : Nat) (fl i : Value) (wr : World) : Prop :=
  ∃ k : Nat, k ≤ y ∧ i = .int .i64 k ∧ ((fl = .bool true ∧ ∃ xs i', S wr i' xs ∧ xs.length = k ∧ i' ≤ l.length ∧ pMany p k (l.drop 2) = some (xs, l.drop i')) ∨ (fl = .bool false ∧ pMany p k (l.drop 2) = none ∧ Below w0.heap.size w0 wr))
def EachTold {α : Type} (w0 : World) (l : List Nat) (p : List Nat → Option (α × List Nat)) (S : World → Nat → List α → Prop) (e : Ending) (w' : World) : Prop :=
  (e = .returned (.bool true) ∧ ∃ xs i', S w' i' xs ∧ 2 ≤ l.length ∧ i' ≤ l.length ∧ pMany p (atB l 1) (l.drop 2) = some (xs, l.drop i')) ∨ (e = .returned (.bool false) ∧ (l.length ≤ 1 ∨ (2 ≤ l.length ∧ pMany p (atB l 1) (l.drop 2) = none)) ∧ Below w0.heap.size w0 w')
set_option maxRecDepth 100000 in
set_option maxHeartbeats 1000000 in
theorem takeEach_any {α : Type} (w0 : World) (b : Nat) (w : World) (sv : Value) (l : List Nat) (lf : Bool) (iv kv dv fv : Value) (p : List Nat → Option (α × List Nat)) (f : FuncId) (S : World → Nat → List α → Prop) (hO : OneTake w0 b l p f S)
    (h : RdAt w b sv 1 lf iv kv dv fv) (hsv : Bytes w0 sv l) (h0 : Below w0.heap.size w0 w) (hb : w0.heap.size ≤ b) (hi : 1 ≤ l.length) (hst : ∀ w', RdAt w' b sv 2 lf iv kv dv fv → Only b w w' → S w' 2 []) :
    Calls Tryz.prog 140 #[.pointer (some ⟨b, 0, none⟩)] w (EachTold w0 l p S) := by
  have HC := Lib.hid (size_any w0 b w sv l 1 lf iv kv dv fv h hsv h0 hb hi)
  have HB1 := Lib.hid (fun w' (ho : Only b w w') => Below.only h0 hb (Nat.le_of_lt (Nat.lt_of_le_of_lt hb h.lt)) ho)
  have HST := Lib.hid hst; have HO := Lib.hid hO
  have HY := Lib.hid (fun (hl : 1 < l.length) => hsv.at_lt hl)
  clear h hsv h0 hb hst hO hi
  go_enter Tryz.func140, Tryz.ntmps140
  go_wp2_with fail
  refine HC.out.mono ?_
  rintro e w1 (⟨hil, rfl, hr, ho⟩ | ⟨hil, rfl, hr, ho⟩)
  · have hy := HY.out hil
    have HIL := Lib.hid hil
    have hrel0 : EachRel w0 l p S (atB l 1) (.bool true) (.int .i64 (0 : Nat)) w1 := ⟨0, Nat.zero_le _, rfl, .inl ⟨rfl, [], 2, HST.out w1 hr ho, rfl, by omega, rfl⟩⟩
    have HREL := Lib.hid hrel0
    have HEND : Hid (∀ e w', ((e = .returned (.bool true) ∧ ∃ xs i', S w' i' xs ∧ 2 ≤ l.length ∧ i' ≤ l.length ∧ pMany p (atB l 1) (l.drop 2) = some (xs, l.drop i')) ∨ (e = .returned (.bool false) ∧ (l.length ≤ 1 ∨ (2 ≤ l.length ∧ pMany p (atB l 1) (l.drop 2) = none)) ∧ Below w0.heap.size w0 w')) → EachTold w0 l p S e w') := fun _ _ h => h
    generalize hya : atB l 1 = y at *
    have hyi : (y : Int) < 256 := by omega
    clear hrel0 hr ho hil HC HST HY
    go_wp2
    go_loopw [4, 11] (fun fl i W => EachRel w0 l p S y fl i W) (fun _ i _ => y - (intOf i).toNat)
    case atStart => exact HREL.out
    case round =>
      clear HREL
      obtain ⟨k, hk, rfl, hst⟩ := hrel
      by_cases hlt : k < y
      · have HK := Lib.hid hlt
        rcases hst with ⟨rfl, xs, i', hS, hxl, hi', hp⟩ | ⟨rfl, hp, hbl⟩
        · have hcell := HO.out.cell wr i' xs hS
          have hent := HO.out.enter
          have HT := Lib.hid (HO.out.take wr i' xs hS hi' (by omega))
          have HP := Lib.hid hp; have HXL := Lib.hid hxl
          clear hS hxl hi' hp
          go_wp2_with fail
          refine HT.out.mono ?_
          clear hent hcell
          rintro e w2 ⟨x, i2, ok, rfl, hS2, hi2, htold⟩
          have hrel2 : EachRel w0 l p S y (.bool ok) (.int .i64 (k + 1 : Nat)) w2 := by
            refine ⟨k + 1, HK.out, rfl, ?_⟩
            rcases htold with ⟨rfl, ht⟩ | ⟨rfl, ht⟩
            · exact .inl ⟨rfl, _, i2, hS2, by rw [List.length_append, HXL.out]; rfl, hi2, pMany_snoc HP.out ht⟩
            · exact .inr ⟨rfl, pMany_snoc_no HP.out ht, HO.out.below _ _ _ hS2⟩
          have HR := Lib.hid hrel2
          clear hrel2 htold hS2 hi2 HT
          go_wp2
          go_roundw
          case rel => exact HR.out
          case measure => simp [intOf]; have := HK.out; omega
        · have hrel2 : EachRel w0 l p S y (.bool false) (.int .i64 (k + 1 : Nat)) wr := ⟨k + 1, HK.out, rfl, .inr ⟨rfl, pMany_none_succ hp, hbl⟩⟩
          have HR := Lib.hid hrel2
          clear hrel2 hp hbl
          go_wp2
          go_roundw
          case rel => exact HR.out
          case measure => simp [intOf]; have := HK.out; omega
      · obtain rfl : k = y := by omega
        rcases hst with ⟨rfl, xs, i', hS, hxl, hi', hp⟩ | ⟨rfl, hp, hbl⟩
        · have HF := Lib.hid (HEND.out _ wr (.inl ⟨rfl, xs, i', hS, HIL.out, hi', hp⟩))
          clear hS hxl hi' hp
          go_wp2
          go_ret
          exact HF.out
        · have HF := Lib.hid (HEND.out _ wr (.inr ⟨rfl, .inr ⟨HIL.out, hp⟩, hbl⟩))
          clear hp hbl
          go_wp2
          go_ret
          exact HF.out
  · have HF : Hid (EachTold w0 l p S (.returned (.bool false)) w1) := .inr ⟨rfl, .inl hil, HB1.out w1 ho⟩
    clear hr ho hil HC HST HY
    go_wp2
    go_loopw [4, 11] (fun fl n W => fl = .bool false ∧ n = .int .i64 0 ∧ W = w1) (fun _ _ _ => 0)
    case atStart => exact ⟨rfl, rfl, rfl⟩
    case round =>
      obtain ⟨rfl, rfl, rfl⟩ := hrel
      go_wp2
      go_ret
      exact HF.out
def LetTold (_w0 : World) (b : Nat) (w : World) (sv : Value) (l : List Nat) (e : Ending) (w' : World) : Prop :=
  (e = .returned (.bool true) ∧ 1 ≤ l.length ∧ atB l 0 = 76 ∧ RdAt w' b sv 1 true (.slice none 0 0) (.slice none 0 0) (.slice none 0 0) (.func (.func 170) #[.pointer (some ⟨b, 0, none⟩)] #[]) ∧ Only b w w') ∨
  (e = .returned (.bool true) ∧ 1 ≤ l.length ∧ atB l 0 = 78 ∧ RdAt w' b sv 1 false (.slice none 0 0) (.slice none 0 0) (.slice none 0 0) (.func (.func 171) #[.pointer (some ⟨b, 0, none⟩)] #[]) ∧ Only b w w') ∨
  (e = .returned (.bool false) ∧ (l.length < 1 ∨ (1 ≤ l.length ∧ atB l 0 ≠ 76 ∧ atB l 0 ≠ 78)) ∧ Only b w w')
set_option maxRecDepth 100000 in
theorem takeLetter_any (w0 : World) (b : Nat) (w : World) (sv : Value) (l : List Nat) (h : RdAt w b sv 0 false (.slice none 0 0) (.slice none 0 0) (.slice none 0 0) .nilFunc) (hsv : Bytes w0 sv l) (h0 : Below w0.heap.size w0 w) (hb : w0.heap.size ≤ b) :
    Calls Tryz.prog 139 #[.pointer (some ⟨b, 0, none⟩)] w (LetTold w0 b w sv l) := by
  by_cases h1 : 0 + 1 ≤ l.length
  · have HC := Lib.hid (next_yes w0 b w sv l 0 false (.slice none 0 0) (.slice none 0 0) (.slice none 0 0) .nilFunc h hsv 1 h1)
    have hcl : atB l 0 < 256 := hsv.at_lt (by omega)
    unfold NextYes at HC
    rw [pc_one h1] at HC
    have HTO : Hid (∀ e w', ((e = .returned (.bool true) ∧ 1 ≤ l.length ∧ atB l 0 = 76 ∧ RdAt w' b sv 1 true (.slice none 0 0) (.slice none 0 0) (.slice none 0 0) (.func (.func 170) #[.pointer (some ⟨b, 0, none⟩)] #[]) ∧ Only b w w') ∨
      (e = .returned (.bool true) ∧ 1 ≤ l.length ∧ atB l 0 = 78 ∧ RdAt w' b sv 1 false (.slice none 0 0) (.slice none 0 0) (.slice none 0 0) (.func (.func 171) #[.pointer (some ⟨b, 0, none⟩)] #[]) ∧ Only b w w') ∨
      (e = .returned (.bool false) ∧ (l.length < 1 ∨ (1 ≤ l.length ∧ atB l 0 ≠ 76 ∧ atB l 0 ≠ 78)) ∧ Only b w w')) → LetTold w0 b w sv l e w') := fun _ _ h => h
    have H0 := Lib.hid h0; have HB := Lib.hid hb; have HS := Lib.hid h.lt; have HL := Lib.hid h1
    clear h hsv h0 hb h1
    generalize atB l 0 = y at *
    have hy : (y : Int) < 256 := by omega
    go_enter Tryz.func139, Tryz.ntmps139
    go_wp2_with fail
    refine HC.out.mono ?_
    rintro e w1 ⟨u, c, rfl, hbq, hr, ho⟩
    have hb1 : Below w0.heap.size w0 w1 := Below.only H0.out HB.out (Nat.le_of_lt (Nat.lt_of_le_of_lt HB.out HS.out)) ho
    obtain ⟨b1, o1, rfl, hcell⟩ := (hbq.below hb1).spot 0 (by simp)
    rw [show atB [y] 0 = y by simp [atB], Nat.add_zero] at hcell
    have c2 := cells_of hr 2
    have c6 := cells_of hr 6
    have f2 := free_of hr 2
    have f6 := free_of hr 6
    simp only [List.getElem?_toArray, List.getElem?_cons_zero, List.getElem?_cons_succ] at c2 c6
    clear hbq hb1 HC
    by_cases h76 : y = 76
    · have HF := Lib.hid (HTO.out (.returned (.bool true)) _ (.inl ⟨rfl, HL.out, h76, (hr.setLf true).setFv (.func (.func 170) #[.pointer (some ⟨b, 0, none⟩)] #[]), (ho.trans (Only.set b 2 _ _)).trans (Only.set b 6 _ _)⟩))
      have hy76 : ((y : Int) == 76) = true := by rw [h76]; rfl
      clear hr ho h76
      go_wp2
      go_ret
      exact HF.out
    · have hn76 : ((y : Int) == 76) = false := by rw [beq_eq_false_iff_ne]; omega
      by_cases h78 : y = 78
      · have HF := Lib.hid (HTO.out (.returned (.bool true)) _ (.inr (.inl ⟨rfl, HL.out, h78, hr.setFv (.func (.func 171) #[.pointer (some ⟨b, 0, none⟩)] #[]), ho.trans (Only.set b 6 _ _)⟩)))
        have hy78 : ((y : Int) == 78) = true := by rw [h78]; rfl
        clear hr ho h78 h76
        go_wp2
        go_ret
        exact HF.out
      · have hn78 : ((y : Int) == 78) = false := by rw [beq_eq_false_iff_ne]; omega
        have HF := Lib.hid (HTO.out (.returned (.bool false)) w1 (.inr (.inr ⟨rfl, .inr ⟨HL.out, h76, h78⟩, ho⟩)))
        clear hr ho h76 h78
        go_wp2
        go_ret
        exact HF.out
  · have HC := Lib.hid (next_no w0 b w sv l 0 false (.slice none 0 0) (.slice none 0 0) (.slice none 0 0) .nilFunc h hsv 1 (Nat.zero_le _) (by omega) (by omega))
    have HL : Hid (l.length < 1) := by unfold Hid; omega
    unfold NextNo at HC
    clear h hsv h0 hb h1
    go_enter Tryz.func139, Tryz.ntmps139
    go_wp2_with fail
    refine HC.out.mono ?_
    rintro e w1 ⟨rfl, hr, ho⟩
    have HO := Lib.hid ho; clear hr ho
    go_wp2
    go_ret
    exact .inr (.inr ⟨rfl, .inl HL.out, HO.out⟩)
set_option maxRecDepth 100000 in
theorem end_any (w0 : World) (b : Nat) (w : World) (sv : Value) (l : List Nat) (i : Nat) (lf : Bool) (iv kv dv fv : Value) (h : RdAt w b sv i lf iv kv dv fv) (hsv : Bytes w0 sv l) (_hi : i ≤ l.length) :
    Calls Tryz.prog 141 #[.pointer (some ⟨b, 0, none⟩)] w fun e w' => e = .returned (.bool (decide (i = l.length))) ∧ w' = w.drew := by
  obtain ⟨p, cap, rfl, _⟩ := hsv.any
  have hm := hsv.short
  unfold maxLen at hm
  clear hsv
  have c0 := cells_of h 0
  have c1 := cells_of h 1
  simp only [List.getElem?_toArray, List.getElem?_cons_zero, List.getElem?_cons_succ] at c0 c1
  clear h
  have E : Hid (((i : Int) == (l.length : Int)) = decide (i = l.length)) := by
    unfold Hid
    rw [Bool.eq_iff_iff]; simp; omega
  go_enter Tryz.func141, Tryz.ntmps141
  go_wp2
  go_region
  go_wp2
  go_ret
  exact ⟨by rw [← E.out]; rfl, rfl⟩
set_option maxRecDepth 100000 in
theorem be_any {b : Nat} {w : World} {sv : Value} {i : Nat} {fv : Value} {n : Nd} {pi pk pd : Option Addr} {ci ck cd : Nat} (h : RdAt w b sv i n.leaf (.slice pi n.its.length ci) (.slice pk n.ks.length ck) (.slice pd n.kids.length cd) fv) (hn : IsNd w (.agg #[.bool n.leaf, .slice pi n.its.length ci, .slice pk n.ks.length ck, .slice pd n.kids.length cd]) n pi ci pk ck pd cd) :
    Calls Tryz.prog 142 #[.pointer (some ⟨b, 0, none⟩)] w fun e w' => e = .returned (.bool (mayNd n)) ∧ Below w.heap.size w w' := by
  have HC := Lib.hid (may_any hn)
  have c2 := cells_of h 2
  have c3 := cells_of h 3
  have c4 := cells_of h 4
  have c5 := cells_of h 5
  simp only [List.getElem?_toArray, List.getElem?_cons_zero, List.getElem?_cons_succ] at c2 c3 c4 c5
  clear h hn
  go_enter Tryz.func142, Tryz.ntmps142
  go_wp2_with fail
  refine HC.out.mono ?_
  rintro e w1 ⟨rfl, hr⟩
  have HR := Lib.hid hr; clear hr
  go_wp2
  go_ret
  exact ⟨rfl, HR.out⟩
end Go.Proofs.YtlagllhhahomlaaGreat.Sl.Nd
/- Nodes in a program: what is taken. -/
namespace Go.Proofs.YtlagllhhahomlaaGreat.Sl.Nd
open Go Go.RowKit Go.By
def NdSt (w0 : World) (b : Nat) (w : World) (sv : Value) (i : Nat) (n : Nd) : Prop :=
  ∃ iv kv dv fv, RdAt w b sv i n.leaf iv kv dv fv ∧ ItRow w b iv n.its ∧ KyRow w b kv n.ks ∧ KdRow w b dv n.kids ∧ Below w0.heap.size w0 w
theorem LfSt.nd {w0 : World} {b : Nat} {w : World} {sv : Value} {i : Nat} {fv : Value} {its : List NIt} (h : LfSt w0 b w sv i fv its) : NdSt w0 b w sv i (lfOf its) := by
  obtain ⟨iv, h1, h2, h3⟩ := h
  exact ⟨iv, _, _, fv, h1, h2, KyRow.nil _ _, KdRow.nil _ _, h3⟩
theorem InSt.nd {w0 : World} {b : Nat} {w : World} {sv : Value} {i : Nat} {fv : Value} {xs : List (List Nat × NKd)} (h : InSt w0 b w sv i fv xs) : NdSt w0 b w sv i (inOf xs) := by
  obtain ⟨kv, dv, h1, h2, h3, h4⟩ := h
  exact ⟨_, kv, dv, fv, h1, ItRow.nil _ _, h2, h3, h4⟩
theorem NdSt.below' {w0 : World} {b : Nat} {w w' : World} {sv : Value} {i : Nat} {n : Nd} (h : NdSt w0 b w sv i n) (hb : Below w.heap.size w w') : NdSt w0 b w' sv i n := by
  obtain ⟨iv, kv, dv, fv, h1, h2, h3, h4, h5⟩ := h
  exact ⟨iv, kv, dv, fv, h1.below' hb, h2.below' hb, h3.below' hb, h4.below' hb, h5.trans (hb.mono h5.size)⟩
theorem NdSt.open_ {w0 : World} {b : Nat} {w : World} {sv : Value} {i : Nat} {n : Nd} (h : NdSt w0 b w sv i n) :
    ∃ pi ci pk ck pd cd fv, RdAt w b sv i n.leaf (.slice pi n.its.length ci) (.slice pk n.ks.length ck) (.slice pd n.kids.length cd) fv ∧ IsNd w (.agg #[.bool n.leaf, .slice pi n.its.length ci, .slice pk n.ks.length ck, .slice pd n.kids.length cd]) n pi ci pk ck pd cd ∧ Below w0.heap.size w0 w ∧
      ∀ w' : World, (∀ k, b ≤ k → k < w.heap.size → w'.heap[k]? = w.heap[k]?) → IsNd w' (.agg #[.bool n.leaf, .slice pi n.its.length ci, .slice pk n.ks.length ck, .slice pd n.kids.length cd]) n pi ci pk ck pd cd := by
  obtain ⟨iv, kv, dv, fv, h1, h2, h3, h4, h5⟩ := h
  obtain ⟨pi, ci, rfl, r2⟩ := h2.at_
  obtain ⟨pk, ck, rfl, r3⟩ := h3.at_
  obtain ⟨pd, cd, rfl, r4⟩ := h4.at_
  refine ⟨pi, ci, pk, ck, pd, cd, fv, h1, ⟨rfl, r2, r3, r4⟩, h5, fun w' hk => ?_⟩
  have own : ∀ {s : Nat} {e : TypeId} {v : Value} {n : Nat} {xs : List Value}, w.ownsRow b e s v n xs → w'.ownsRow b e s v n xs := fun h => owns_stay h (fun k hk' => hk k (h.lt k hk').1 (h.lt k hk').2)
  have txt : ∀ {v : Value} {l : List Nat}, Txt w b v l → Txt w' b v l := fun h => ⟨own h.1, h.2⟩
  have g2 : ItRow w' b (.slice pi n.its.length ci) n.its := by
    obtain ⟨cs, a1, a2, a3⟩ := h2
    exact ⟨cs, a1, own a2, fun j hj hj' => ⟨txt (a3 j hj hj').1, txt (a3 j hj hj').2⟩⟩
  have g3 : KyRow w' b (.slice pk n.ks.length ck) n.ks := by
    obtain ⟨cs, a1, a2, a3⟩ := h3
    exact ⟨cs, a1, own a2, fun j hj hj' => txt (a3 j hj hj')⟩
  have g4 : KdRow w' b (.slice pd n.kids.length cd) n.kids := ⟨own h4.1, h4.2⟩
  obtain ⟨_, _, e2, s2⟩ := g2.at_
  obtain ⟨_, _, e3, s3⟩ := g3.at_
  obtain ⟨_, _, e4, s4⟩ := g4.at_
  simp only [Value.slice.injEq, true_and] at e2 e3 e4
  obtain ⟨rfl, rfl⟩ := e2
  obtain ⟨rfl, rfl⟩ := e3
  obtain ⟨rfl, rfl⟩ := e4
  exact ⟨rfl, s2, s3, s4⟩
theorem item_take (w0 : World) (b : Nat) (sv : Value) (l : List Nat) (hsv : Bytes w0 sv l) (hb : w0.heap.size ≤ b) :
    OneTake w0 b l pIt 170 (fun w i its => LfSt w0 b w sv i (.func (.func 170) #[.pointer (some ⟨b, 0, none⟩)] #[]) its) where
  enter := fun args w => by kernel_rfl
  cell := fun w i xs h => by
    obtain ⟨iv, h1, _, _⟩ := h
    exact cells_of h1 6
  below := fun w i xs h => by
    obtain ⟨iv, _, _, h3⟩ := h
    exact h3
  take := fun w i xs h hi hn => takeItem_any w0 b w sv l i _ xs h hsv hb hi hn
theorem kid_take (w0 : World) (b : Nat) (sv : Value) (l : List Nat) (hsv : Bytes w0 sv l) (hb : w0.heap.size ≤ b) :
    OneTake w0 b l pKd 171 (fun w i xs => InSt w0 b w sv i (.func (.func 171) #[.pointer (some ⟨b, 0, none⟩)] #[]) xs) where
  enter := fun args w => by kernel_rfl
  cell := fun w i xs h => by
    obtain ⟨kv, dv, h1, _, _, _⟩ := h
    exact cells_of h1 6
  below := fun w i xs h => by
    obtain ⟨kv, dv, _, _, _, h3⟩ := h
    exact h3
  take := fun w i xs h hi hn => takeKid_any w0 b w sv l i _ xs h hsv hb hi hn
theorem takeNd_short {l : List Nat} (h : l.length ≤ 1) : takeNd l = none := by
  match l, h with
  | [], _ => rfl
  | [_], _ => rfl
theorem takeNd_of {l : List Nat} (h : 2 ≤ l.length) : takeNd l = if atB l 0 = 76 then ndBody true (atB l 1) (l.drop 2) else if atB l 0 = 78 then ndBody false (atB l 1) (l.drop 2) else none := by
  match l, h with
  | k :: c :: r, _ => rfl
theorem takeNd_letter {l : List Nat} (h : l.length < 1 ∨ (1 ≤ l.length ∧ atB l 0 ≠ 76 ∧ atB l 0 ≠ 78)) : takeNd l = none := by
  rcases h with h | ⟨h, h1, h2⟩
  · exact takeNd_short (by omega)
  · by_cases h3 : 2 ≤ l.length
    · rw [takeNd_of h3, if_neg h1, if_neg h2]
    · exact takeNd_short (by omega)
theorem takeNd_lf {l : List Nat} {its : List NIt} {r : List Nat} (h : 2 ≤ l.length) (h0 : atB l 0 = 76) (hp : pMany pIt (atB l 1) (l.drop 2) = some (its, r)) : takeNd l = ndTold (lfOf its) r := by
  rw [takeNd_of h, if_pos h0]
  unfold ndBody
  rw [if_pos rfl, hp]
theorem takeNd_lf_no {l : List Nat} (h0 : atB l 0 = 76) (hp : l.length ≤ 1 ∨ (2 ≤ l.length ∧ pMany pIt (atB l 1) (l.drop 2) = none)) : takeNd l = none := by
  rcases hp with h | ⟨h, hp⟩
  · exact takeNd_short h
  · rw [takeNd_of h, if_pos h0]
    unfold ndBody
    rw [if_pos rfl, hp]
theorem takeNd_in {l : List Nat} {xs : List (List Nat × NKd)} {r : List Nat} (h : 2 ≤ l.length) (h0 : atB l 0 = 78) (hp : pMany pKd (atB l 1) (l.drop 2) = some (xs, r)) : takeNd l = ndTold (inOf xs) r := by
  rw [takeNd_of h, if_neg (by omega), if_pos h0]
  unfold ndBody
  rw [if_neg (by decide), hp]
theorem takeNd_in_no {l : List Nat} (h0 : atB l 0 = 78) (hp : l.length ≤ 1 ∨ (2 ≤ l.length ∧ pMany pKd (atB l 1) (l.drop 2) = none)) : takeNd l = none := by
  rcases hp with h | ⟨h, hp⟩
  · exact takeNd_short h
  · rw [takeNd_of h, if_neg (by omega), if_pos h0]
    unfold ndBody
    rw [if_neg (by decide), hp]
theorem index0 (f1 f2 f3 f4 : FuncId) (a : Value) (w : World) : (Instr.index 227 (.agg #[.func (.func f1) #[a] #[], .func (.func f2) #[a] #[], .func (.func f3) #[a] #[], .func (.func f4) #[a] #[]]) (.int .i64 0)).run Tryz.prog w = .ok (.func (.func f1) #[a] #[]) w := by kernel_rfl
theorem index1 (f1 f2 f3 f4 : FuncId) (a : Value) (w : World) : (Instr.index 227 (.agg #[.func (.func f1) #[a] #[], .func (.func f2) #[a] #[], .func (.func f3) #[a] #[], .func (.func f4) #[a] #[]]) (.int .i64 1)).run Tryz.prog w = .ok (.func (.func f2) #[a] #[]) w := by kernel_rfl
theorem index2 (f1 f2 f3 f4 : FuncId) (a : Value) (w : World) : (Instr.index 227 (.agg #[.func (.func f1) #[a] #[], .func (.func f2) #[a] #[], .func (.func f3) #[a] #[], .func (.func f4) #[a] #[]]) (.int .i64 2)).run Tryz.prog w = .ok (.func (.func f3) #[a] #[]) w := by kernel_rfl
theorem index3 (f1 f2 f3 f4 : FuncId) (a : Value) (w : World) : (Instr.index 227 (.agg #[.func (.func f1) #[a] #[], .func (.func f2) #[a] #[], .func (.func f3) #[a] #[], .func (.func f4) #[a] #[]]) (.int .i64 3)).run Tryz.prog w = .ok (.func (.func f4) #[a] #[]) w := by kernel_rfl
inductive TkRel (w1 : World) (sv : Value) (l : List Nat) : Value → World → Prop where
  | r0 {w : World} : RdAt w w1.heap.size sv 0 false (.slice none 0 0) (.slice none 0 0) (.slice none 0 0) .nilFunc → Below w1.heap.size w1 w → TkRel w1 sv l (.int .i64 0) w
  | r1l {w : World} : 1 ≤ l.length → atB l 0 = 76 → RdAt w w1.heap.size sv 1 true (.slice none 0 0) (.slice none 0 0) (.slice none 0 0) (.func (.func 170) #[.pointer (some ⟨w1.heap.size, 0, none⟩)] #[]) → Below w1.heap.size w1 w → TkRel w1 sv l (.int .i64 1) w
  | r1n {w : World} : 1 ≤ l.length → atB l 0 = 78 → RdAt w w1.heap.size sv 1 false (.slice none 0 0) (.slice none 0 0) (.slice none 0 0) (.func (.func 171) #[.pointer (some ⟨w1.heap.size, 0, none⟩)] #[]) → Below w1.heap.size w1 w → TkRel w1 sv l (.int .i64 1) w
  | r2 {w : World} {n : Nd} {i : Nat} : NdSt w1 w1.heap.size w sv i n → i ≤ l.length → takeNd l = ndTold n (l.drop i) → TkRel w1 sv l (.int .i64 2) w
  | r3 {w : World} {n : Nd} {i : Nat} : NdSt w1 w1.heap.size w sv i n → takeNd l = ndTold n [] → TkRel w1 sv l (.int .i64 3) w
  | r4 {w : World} {n : Nd} {i : Nat} : NdSt w1 w1.heap.size w sv i n → takeNd l = some n → TkRel w1 sv l (.int .i64 4) w
structure Step (w1 : World) (sv : Value) (l : List Nat) (k : Nat) (wr : World) (f : FuncId) : Prop where
  enter : ∀ args w, (callFunc f args).run Tryz.prog w = .ok (.enter f args) w
  index : ∀ w, (Instr.index 227 (.agg #[.func (.func 139) #[.pointer (some ⟨w1.heap.size, 0, none⟩)] #[], .func (.func 140) #[.pointer (some ⟨w1.heap.size, 0, none⟩)] #[], .func (.func 141) #[.pointer (some ⟨w1.heap.size, 0, none⟩)] #[], .func (.func 142) #[.pointer (some ⟨w1.heap.size, 0, none⟩)] #[]]) (.int .i64 (k : Nat))).run Tryz.prog w = .ok (.func (.func f) #[(.pointer (some ⟨w1.heap.size, 0, none⟩))] #[]) w
  call : Calls Tryz.prog f #[(.pointer (some ⟨w1.heap.size, 0, none⟩))] wr fun e w' => (e = .returned (.bool true) ∧ TkRel w1 sv l (.int .i64 (k + 1 : Nat)) w') ∨ (e = .returned (.bool false) ∧ takeNd l = none ∧ Below w1.heap.size w1 w')
theorem step_any {w1 wr : World} {sv i : Value} {l : List Nat} (hsv : Bytes w1 sv l) (h : TkRel w1 sv l i wr) :
    (∃ k : Nat, k < 4 ∧ i = .int .i64 k ∧ ∃ f, Step w1 sv l k wr f) ∨ (i = .int .i64 4 ∧ TkRel w1 sv l (.int .i64 4) wr) := by
  cases h with
  | r0 hr hb =>
    refine .inl ⟨0, by decide, rfl, 139, fun args w => by kernel_rfl, index0 _ _ _ _ _, ?_⟩
    refine (takeLetter_any w1 w1.heap.size wr sv l hr hsv hb (Nat.le_refl _)).mono ?_
    rintro e w2 (⟨rfl, h1, h2, h3, h4⟩ | ⟨rfl, h1, h2, h3, h4⟩ | ⟨rfl, h1, h4⟩)
    · exact .inl ⟨rfl, .r1l h1 h2 h3 (Below.only hb (Nat.le_refl _) (Nat.le_of_lt hr.lt) h4)⟩
    · exact .inl ⟨rfl, .r1n h1 h2 h3 (Below.only hb (Nat.le_refl _) (Nat.le_of_lt hr.lt) h4)⟩
    · exact .inr ⟨rfl, takeNd_letter h1, Below.only hb (Nat.le_refl _) (Nat.le_of_lt hr.lt) h4⟩
  | r1l h1 h2 hr hb =>
    refine .inl ⟨1, by decide, rfl, 140, fun args w => by kernel_rfl, index1 _ _ _ _ _, ?_⟩
    refine (takeEach_any w1 w1.heap.size wr sv l true _ _ _ _ pIt _ _ (item_take w1 w1.heap.size sv l hsv (Nat.le_refl _)) hr hsv hb (Nat.le_refl _) h1 (fun w' hr' ho => ⟨_, hr', ItRow.nil _ _, Below.only hb (Nat.le_refl _) (Nat.le_of_lt hr.lt) ho⟩)).mono ?_
    rintro e w2 (⟨rfl, its, i', hS, hl, hi', hp⟩ | ⟨rfl, hp, hbl⟩)
    · exact .inl ⟨rfl, .r2 hS.nd hi' (takeNd_lf hl h2 hp)⟩
    · exact .inr ⟨rfl, takeNd_lf_no h2 hp, hbl⟩
  | r1n h1 h2 hr hb =>
    refine .inl ⟨1, by decide, rfl, 140, fun args w => by kernel_rfl, index1 _ _ _ _ _, ?_⟩
    refine (takeEach_any w1 w1.heap.size wr sv l false _ _ _ _ pKd _ _ (kid_take w1 w1.heap.size sv l hsv (Nat.le_refl _)) hr hsv hb (Nat.le_refl _) h1 (fun w' hr' ho => ⟨_, _, hr', KyRow.nil _ _, KdRow.nil _ _, Below.only hb (Nat.le_refl _) (Nat.le_of_lt hr.lt) ho⟩)).mono ?_
    rintro e w2 (⟨rfl, xs, i', hS, hl, hi', hp⟩ | ⟨rfl, hp, hbl⟩)
    · exact .inl ⟨rfl, .r2 hS.nd hi' (takeNd_in hl h2 hp)⟩
    · exact .inr ⟨rfl, takeNd_in_no h2 hp, hbl⟩
  | r2 hS hi' ht =>
    rename_i n i'
    refine .inl ⟨2, by decide, rfl, 141, fun args w => by kernel_rfl, index2 _ _ _ _ _, ?_⟩
    obtain ⟨iv, kv, dv, fv, hr, _, _, _, hb⟩ := id hS
    refine (end_any w1 w1.heap.size wr sv l i' _ _ _ _ _ hr hsv hi').mono ?_
    rintro e w2 ⟨rfl, rfl⟩
    have hbz : Below wr.heap.size wr wr.drew := (Below.refl _ _).drew
    by_cases hp : i' = l.length
    · rw [decide_eq_true hp]
      exact .inl ⟨rfl, .r3 (hS.below' hbz) (by rw [ht, hp, List.drop_length])⟩
    · rw [decide_eq_false hp]
      refine .inr ⟨rfl, ?_, hb.trans (hbz.mono hb.size)⟩
      rw [ht, List.drop_eq_getElem_cons (by omega)]
      rfl
  | r3 hS ht =>
    rename_i n i'
    refine .inl ⟨3, by decide, rfl, 142, fun args w => by kernel_rfl, index3 _ _ _ _ _, ?_⟩
    obtain ⟨pi, ci, pk, ck, pd, cd, fv, hr, hn, hb, _⟩ := hS.open_
    refine (be_any hr hn).mono ?_
    rintro e w2 ⟨rfl, hb2⟩
    cases hm : mayNd n with
    | true => exact .inl ⟨rfl, .r4 (hS.below' hb2) (by rw [ht]; unfold ndTold; rw [if_pos hm])⟩
    | false => exact .inr ⟨rfl, by rw [ht]; unfold ndTold; rw [hm]; rfl, hb.trans (hb2.mono hb.size)⟩
  | r4 hS ht => exact .inr ⟨rfl, .r4 hS ht⟩
def Tells (w : World) (l : List Nat) (z : Ending) (w' : World) : Prop :=
  ((takeNd l = none ∧ z = .returned (.tuple #[.agg #[.bool false, .slice none 0 0, .slice none 0 0, .slice none 0 0], .int .i64 2])) ∨
    ∃ n pi ci pk ck pd cd, takeNd l = some n ∧ z = .returned (.tuple #[.agg #[.bool n.leaf, .slice pi n.its.length ci, .slice pk n.ks.length ck, .slice pd n.kids.length cd], .int .i64 0]) ∧ IsNd w' (.agg #[.bool n.leaf, .slice pi n.its.length ci, .slice pk n.ks.length ck, .slice pd n.kids.length cd]) n pi ci pk ck pd cd) ∧ Below w.heap.size w w'
def AnsAt (w : World) (g : Nat) : Prop := w.heap[g]? = some (.cells #[.bool false, .slice none 0 0, .slice none 0 0, .slice none 0 0] 38 (0, 0))
theorem ans_set {w : World} {A : Nat} (h : AnsAt w A) (a b c d : Value) :
    ((((w.setCell ⟨A, 0, none⟩ a).setCell ⟨A, 1, none⟩ b).setCell ⟨A, 2, none⟩ c).setCell ⟨A, 3, none⟩ d).heap[A]? = some (.cells #[a, b, c, d] 38 (0, 0)) :=
  heap_setCell_same _ A 3 _ _ d (heap_setCell_same _ A 2 _ _ c (heap_setCell_same _ A 1 _ _ b (heap_setCell_same _ A 0 _ _ a h)))
theorem ans_below {B : Nat} {w0 w : World} {A : Nat} (h : Below B w0 w) (hB : B ≤ A) (a b c d : Value) :
    Below B w0 ((((w.setCell ⟨A, 0, none⟩ a).setCell ⟨A, 1, none⟩ b).setCell ⟨A, 2, none⟩ c).setCell ⟨A, 3, none⟩ d) :=
  (((h.setCell (p := ⟨A, 0, none⟩) hB _).setCell (p := ⟨A, 1, none⟩) hB _).setCell (p := ⟨A, 2, none⟩) hB _).setCell (p := ⟨A, 3, none⟩) hB _
theorem ans_other {w : World} {A k : Nat} (hk : k ≠ A) (a b c d : Value) :
    ((((w.setCell ⟨A, 0, none⟩ a).setCell ⟨A, 1, none⟩ b).setCell ⟨A, 2, none⟩ c).setCell ⟨A, 3, none⟩ d).heap[k]? = w.heap[k]? := by
  rw [heap_setCell_other _ _ k _ hk, heap_setCell_other _ _ k _ hk, heap_setCell_other _ _ k _ hk, heap_setCell_other _ _ k _ hk]
theorem took_ret {tmps : Array Value} {w : World} {A : Nat} {cs : Array Value} {x : Value} (hp : tmps.getD 2 undef = .pointer (some ⟨A, 0, none⟩)) (hx : tmps.getD 3 undef = x) (hg : w.heap[A]? = some (.cells cs 38 (0, 0))) (hc : cs.size = 4) :
    (results Tryz.f107 tmps).run Tryz.prog w = .ok (.tuple #[.agg cs, x]) w := by
  have hi : (Tryz.prog.info? 38).map (·.size) = some cs.size := by rw [hc]; kernel_rfl
  have hq : (Tryz.prog.underlying 38).map (fun d => match d with | .struct _ | .array _ _ => true | _ => false) = some true := by kernel_rfl
  obtain ⟨d, hu, hd⟩ := Option.map_eq_some_iff.1 hq
  rw [results_cell_tmp (p := 2) (u := 3) (ty := 38) (by kernel_rfl), hp, hx]
  have := run_loadVar_row (P := Tryz.prog) w A 38 38 cs (0, 0) d hg hu (by cases d <;> simp_all) hi
  simp [asAddr, this, Result.andThen]
set_option maxRecDepth 100000 in
set_option maxHeartbeats 4000000 in
theorem take_any (sv : Value) (l : List Nat) (w : World) (hsv : Bytes w sv l) :
    Calls Tryz.prog 107 #[sv] w (Tells w l) := by
  obtain ⟨p, cap, rfl, _⟩ := hsv.any
  obtain ⟨w1, hw1⟩ : ∃ W, W = w.alloc (.cells #[.bool false, .slice none 0 0, .slice none 0 0, .slice none 0 0] 38) := ⟨_, rfl⟩
  have hz1 : w1.heap.size = w.heap.size + 1 := by rw [hw1]; simp
  have ha1 : AnsAt w1 w.heap.size := by rw [hw1]; exact heap_alloc_new w _
  have hb1 : Below w.heap.size w w1 := by rw [hw1]; exact (Below.refl _ _).alloc (Nat.le_refl _) _
  have HSV := Lib.hid (hsv.below hb1)
  clear hsv
  have HANS : Hid (∀ w', Below w1.heap.size w1 w' → AnsAt w' w.heap.size) := fun w' hb => (hb.block _ (by omega)).trans ha1
  have HBW : Hid (∀ w', Below w1.heap.size w1 w' → Below w.heap.size w w') := fun w' hb => hb1.trans (hb.mono (by omega))
  have h0 : RdAt (w1.alloc (.cells #[.slice p l.length cap, .int .i64 0, .bool false, .slice none 0 0, .slice none 0 0, .slice none 0 0, .nilFunc] 226)) w1.heap.size (.slice p l.length cap) 0 false (.slice none 0 0) (.slice none 0 0) (.slice none 0 0) .nilFunc := heap_alloc_new w1 _
  have H0 := Lib.hid (TkRel.r0 (l := l) h0 ((Below.refl _ _).alloc (Nat.le_refl _) _))
  have HW1 := Lib.hid hw1
  have HZ1 := Lib.hid hz1
  clear h0 hb1 ha1 hw1
  go_enter Tryz.func107, Tryz.ntmps107
  go_wp2
  rw [← HW1.out]
  rw [← hz1]
  clear hz1
  go_loopw [14] (fun i wr => TkRel w1 (.slice p l.length cap) l i wr) (fun i _ => 7 - (intOf i).toNat)
  case atStart => exact H0.out
  case round =>
    clear H0 HW1
    rcases step_any HSV.out hrel with ⟨k, hk, rfl, f, hst⟩ | ⟨rfl, hend⟩
    · have hent := hst.enter
      have hidx := hst.index
      have HC := Lib.hid hst.call
      have hki : (k : Int) < 4 := by omega
      clear hst hrel hk
      go_wp2_with fail
      refine HC.out.mono ?_
      clear hent hidx
      rintro e w2 (⟨rfl, hr⟩ | ⟨rfl, hn, hb⟩)
      · have HR := Lib.hid hr
        clear hr HC
        go_wp2
        go_roundw
        case rel => exact HR.out
        case measure => simp [intOf]; omega
      · have HN := Lib.hid hn
        have hA := HANS.out _ hb
        have a0 := cells_of hA 0; have a1 := cells_of hA 1; have a2 := cells_of hA 2; have a3 := cells_of hA 3
        have q0 := free_of hA 0; have q1 := free_of hA 1; have q2 := free_of hA 2; have q3 := free_of hA 3
        have HX := Lib.hid (ans_set hA (.bool false) (.slice none 0 0) (.slice none 0 0) (.slice none 0 0))
        have HBX := Lib.hid (ans_below (HBW.out _ hb) (Nat.le_refl _) (.bool false) (.slice none 0 0) (.slice none 0 0) (.slice none 0 0))
        clear hA hb hn HC HANS HBW HSV
        go_wp2
        exact bodyPost_ret (took_ret rfl rfl HX.out rfl) rfl ⟨.inl ⟨HN.out, rfl⟩, HBX.out⟩
    · clear hrel
      cases hend with
      | r4 hS hy =>
        rename_i n i'
        have HY := Lib.hid hy
        obtain ⟨pi, ci, pk, ck, pd, cd, fv, hr, hn, hb, hstay⟩ := hS.open_
        have hA := HANS.out _ hb
        have a0 := cells_of hA 0; have a1 := cells_of hA 1; have a2 := cells_of hA 2; have a3 := cells_of hA 3
        have q0 := free_of hA 0; have q1 := free_of hA 1; have q2 := free_of hA 2; have q3 := free_of hA 3
        have c2 := cells_of hr 2
        have c3 := cells_of hr 3
        have c4 := cells_of hr 4
        have c5 := cells_of hr 5
        simp only [List.getElem?_toArray, List.getElem?_cons_zero, List.getElem?_cons_succ] at c2 c3 c4 c5
        have HX := Lib.hid (ans_set hA (.bool n.leaf) (.slice pi n.its.length ci) (.slice pk n.ks.length ck) (.slice pd n.kids.length cd))
        have HBX := Lib.hid (ans_below (HBW.out _ hb) (Nat.le_refl _) (.bool n.leaf) (.slice pi n.its.length ci) (.slice pk n.ks.length ck) (.slice pd n.kids.length cd))
        have HIX := Lib.hid (hstay _ (fun k hk _ => ans_other (A := w.heap.size) (by have := HZ1.out; omega) (.bool n.leaf) (.slice pi n.its.length ci) (.slice pk n.ks.length ck) (.slice pd n.kids.length cd)))
        have HFIN : Hid (∀ z w', z = .returned (.tuple #[.agg #[.bool n.leaf, .slice pi n.its.length ci, .slice pk n.ks.length ck, .slice pd n.kids.length cd], .int .i64 0]) → IsNd w' (.agg #[.bool n.leaf, .slice pi n.its.length ci, .slice pk n.ks.length ck, .slice pd n.kids.length cd]) n pi ci pk ck pd cd → Below w.heap.size w w' → Tells w l z w') := fun z w' h1 h2 h3 => ⟨.inr ⟨n, pi, ci, pk, ck, pd, cd, HY.out, h1, h2⟩, h3⟩
        clear hS hy hr hn hb hstay hA HANS HBW HSV
        generalize n.its.length = l1 at *
        generalize n.ks.length = l2 at *
        generalize n.kids.length = l3 at *
        generalize n.leaf = lf at *
        go_wp2
        exact bodyPost_ret (took_ret rfl rfl HX.out rfl) rfl (HFIN.out _ _ rfl HIX.out HBX.out)
end Go.Proofs.YtlagllhhahomlaaGreat.Sl.Nd
/- Nodes in a program: what is taken, and that it lies in blocks of its own. -/
namespace Go.Proofs.YtlagllhhahomlaaGreat.Sl.Nd
open Go Go.RowKit Go.By
end Go.Proofs.YtlagllhhahomlaaGreat.Sl.Nd
/- Rows of items in a program: Apply. -/
namespace Go.By
open Go Go.RowKit
theorem passed_mem {k : List Nat} {l : List NIt} {i : NIt} (h : i ∈ passed k l) : i ∈ l := by
  cases l with
  | nil => exact h
  | cons j r =>
    rw [passed] at h
    split at h
    · exact List.mem_cons_of_mem _ h
    · exact h
theorem fold_mem : ∀ (l : List NCh) (x : List NIt × List NIt) {i : NIt}, i ∈ (l.foldl stepAll x).1 → i ∈ x.1
  | [], _, _, h => h
  | c :: l, x, i, h => by
    have h1 := fold_mem l (stepAll x c) h
    exact List.mem_of_mem_drop (passed_mem (show i ∈ passed c.k (x.1.drop (front c.k x.1)) from h1))
theorem fold_next {l : List NCh} {k : Nat} (h : k < l.length) (x : List NIt × List NIt) : (l.take (k + 1)).foldl stepAll x = stepAll ((l.take k).foldl stepAll x) l[k] := by
  rw [List.take_succ_eq_append_getElem h, List.foldl_append]
  rfl
def stepN (c : NCh) (x : List NIt × List NIt) : Nat → List NIt × List NIt
  | 0 => x
  | 1 => step1 c x
  | 2 => step2 c (step1 c x)
  | _ => stepAll x c
theorem step1_len (c : NCh) (x : List NIt × List NIt) : (step1 c x).1.length ≤ x.1.length ∧ (step1 c x).2.length ≤ x.2.length + x.1.length := by
  have h1 := front_le c.k x.1
  unfold step1
  simp only [List.length_append, List.length_take, List.length_drop]
  omega
end Go.By
namespace Go.Proofs.YtlagllhhahomlaaGreat.Sl.Nd.Lf
open Go Go.RowKit Go.By
def ItemsTold (w : World) (its : List NIt) (e : Ending) (w' : World) : Prop := ∃ v, e = .returned v ∧ ItRow w' w.heap.size v its ∧ Below w.heap.size w w'
def stepsC (r : Nat) : Array Value := #[.func (.func 143) #[.pointer (some ⟨r, 0, none⟩)] #[], .func (.func 144) #[.pointer (some ⟨r, 0, none⟩)] #[], .func (.func 145) #[.pointer (some ⟨r, 0, none⟩)] #[]]
def ApRel (w0 : World) (r : Nat) (its : List NIt) (l : List NCh) (i : Value) (W : World) : Prop :=
  ∃ k : Nat, k ≤ l.length ∧ i = .int .i64 k ∧ Rw w0 r ((l.take k).foldl stepAll (its, [])) W ∧ W.heap[r + 1]? = some (.cells (stepsC r) 231 (0, 0))
def StRel (w0 : World) (r g : Nat) (c : NCh) (cs : Array Value) (x : List NIt × List NIt) (i : Value) (W : World) : Prop :=
  ∃ k : Nat, k ≤ 3 ∧ i = .int .i64 k ∧ Rw w0 r (stepN c x k) W ∧ W.heap[r + 1]? = some (.cells (stepsC r) 231 (0, 0)) ∧ W.heap[g]? = some (.cells cs 59 (0, 0))
theorem Rw.more {w0 w w' : World} {r : Nat} {x : List NIt × List NIt} (h : Rw w0 r x w) (hb : Below w.heap.size w w') : Rw w0 r x w' := by
  obtain ⟨pl, cl, h1, h2⟩ := h
  exact ⟨pl, cl, h1, h2.more hb⟩
theorem steps_index0 (a b c : Value) (w : World) : (Instr.index 231 (.agg #[a, b, c]) (.int .i64 0)).run Tryz.prog w = .ok a w := by kernel_rfl
theorem steps_index1 (a b c : Value) (w : World) : (Instr.index 231 (.agg #[a, b, c]) (.int .i64 1)).run Tryz.prog w = .ok b w := by kernel_rfl
theorem steps_index2 (a b c : Value) (w : World) : (Instr.index 231 (.agg #[a, b, c]) (.int .i64 2)).run Tryz.prog w = .ok c w := by kernel_rfl
theorem ty_ch : 231 ≠ 49 ∧ 59 ≠ 49 := by decide
set_option maxRecDepth 1000000 in
theorem info_items : ∃ i, Tryz.prog.info? 49 = some i ∧ i.zero = some (.agg #[.slice none 0 0, .slice none 0 0]) ∧ i.size = 2 ∧ i.bytes = 48 := ⟨_, rfl, rfl, rfl, rfl⟩
theorem items_made (c : Nat) (C : Int) (hC : C = c) (hc : c ≤ 2000000) (w : World) :
    ∃ cs : Array Value, cs.size = c * 2 ∧ (Instr.makeSlice 35 (.int .i64 0) (.int .i64 C)).run Tryz.prog w = .ok (.slice (some ⟨w.heap.size, 0, none⟩) 0 c) (w.alloc (.cells cs 49)) := by
  subst hC
  obtain ⟨i, hi, hz, hs, hb⟩ := info_items
  have h := run_make (P := Tryz.prog) w 35 49 i _ (by kernel_rfl) hi hz .i64 .i64 0 (c : Int) (by omega) (by omega) (by rw [hb]; omega) (by omega)
  simp only [Int.toNat_zero, Int.toNat_natCast, hs] at h
  exact ⟨_, size_madeCells _ _, h⟩
set_option maxRecDepth 100000 in
set_option maxHeartbeats 2000000 in
theorem apply_any (pi : Option Addr) (ci : Nat) (its : List NIt) (pc : Option Addr) (cc : Nat) (l : List NCh) (w : World) (hi : RowAt KItem w pi ci its) (hl : RowAt KChange w pc cc l) (hs : AllShort its) (hsc : ∀ c ∈ l, ShortIt ⟨c.k, c.v⟩) (hm : its.length + l.length ≤ 500000) :
    Calls Tryz.prog 113 #[.slice pi its.length ci, .slice pc l.length cc] w (ItemsTold w (applyN its l)) := by
  obtain ⟨cs, hcs, hmake⟩ := items_made (its.length + l.length) ((its.length : Int) + l.length) (by omega) (by omega) w
  obtain ⟨W1, hW1⟩ : ∃ W, W = w.alloc (.cells cs 49) := ⟨_, rfl⟩
  obtain ⟨W2, hW2⟩ : ∃ W, W = W1.alloc (.cells #[.slice pi its.length ci, .slice (some ⟨w.heap.size, 0, none⟩) 0 (its.length + l.length)] 229) := ⟨_, rfl⟩
  obtain ⟨W3, hW3⟩ : ∃ W, W = W2.alloc (.cells (stepsC (w.heap.size + 1)) 231) := ⟨_, rfl⟩
  have hz1 : W1.heap.size = w.heap.size + 1 := by rw [hW1]; simp
  have hz2 : W2.heap.size = w.heap.size + 2 := by rw [hW2]; simp [hz1]
  have hb1 : Below w.heap.size w W1 := by rw [hW1]; exact (Below.refl _ _).alloc (Nat.le_refl _) _
  have hb2 : Below W1.heap.size W1 W2 := by rw [hW2]; exact (Below.refl _ _).alloc (Nat.le_refl _) _
  have hb3 : Below W2.heap.size W2 W3 := by rw [hW3]; exact (Below.refl _ _).alloc (Nat.le_refl _) _
  have hb13 : Below W1.heap.size W1 W3 := hb2.trans (hb3.mono hb2.size)
  have hbw : Below w.heap.size w W3 := hb1.trans (hb13.mono hb1.size)
  have hown : W1.ownsRow w.heap.size 49 2 (.slice (some ⟨w.heap.size, 0, none⟩) 0 (its.length + l.length)) 0 [] := by
    rw [hW1]
    exact World.ownsRow_made w cs _ (Nat.le_refl _) (by unfold maxLen; omega) hcs
  have hrow : ItRow W3 w.heap.size (.slice (some ⟨w.heap.size, 0, none⟩) 0 (its.length + l.length)) [] := ⟨[], rfl, owns_below' hown hb13, fun j h => absurd h (Nat.not_lt_zero _)⟩
  have hra : RwAt W3 (w.heap.size + 1) (.slice pi its.length ci) (.slice (some ⟨w.heap.size, 0, none⟩) 0 (its.length + l.length)) := by
    refine RwAt.below ?_ hb3
    rw [hW2, ← hz1]
    exact heap_alloc_new W1 _
  have harr : W3.heap[w.heap.size + 1 + 1]? = some (.cells (stepsC (w.heap.size + 1)) 231 (0, 0)) := by
    rw [hW3, show w.heap.size + 1 + 1 = W2.heap.size by rw [hz2]]
    exact heap_alloc_new W2 _
  have H0 : Hid (ApRel w (w.heap.size + 1) its l (.int .i64 (0 : Nat)) W3) := ⟨0, Nat.zero_le _, rfl, ⟨pi, ci, hi, _, hra, hrow, hbw⟩, harr⟩
  have HW3 : Hid (((w.alloc (.cells cs 49)).alloc (.cells #[.slice pi its.length ci, .slice (some ⟨w.heap.size, 0, none⟩) 0 (its.length + l.length)] 229)).alloc (.cells #[.func (.func 143) #[.pointer (some ⟨w.heap.size + 1, 0, none⟩)] #[], .func (.func 144) #[.pointer (some ⟨w.heap.size + 1, 0, none⟩)] #[], .func (.func 145) #[.pointer (some ⟨w.heap.size + 1, 0, none⟩)] #[]] 231) = W3) := by
    unfold Hid; rw [hW3, hW2, hW1]; rfl
  have HL := Lib.hid hl; have HS := Lib.hid hs; have HSC := Lib.hid hsc
  have HM : Hid (∀ k, (((l.take k).foldl stepAll (its, [])).1.length + ((l.take k).foldl stepAll (its, [])).2.length ≤ 500000)) := fun k => by
    have h1 := fold_len (l.take k) (its, [])
    have h2 : (l.take k).length ≤ l.length := by rw [List.length_take]; omega
    simp only [List.length_nil] at h1
    omega
  have HAS : Hid (∀ k, AllShort ((l.take k).foldl stepAll (its, [])).1) := fun k i hi => hs i (fold_mem _ _ hi)
  have hL9 : (l.length : Int) ≤ 500000 := by omega
  have hI9 : (its.length : Int) ≤ 500000 := by omega
  obtain ⟨NL, hNL⟩ : ∃ NL, NL = l.length := ⟨_, rfl⟩
  have HNL := Lib.hid hNL
  rw [← hNL] at hL9 hmake HW3 ⊢
  clear hz1 hz2 hb1 hb2 hb3 hb13 hbw hown hrow hra harr hi hl hs hsc hm hcs hW1 hW2 hW3 hNL
  go_enter Tryz.func113, Tryz.ntmps113
  go_wp2
  rw [HW3.out]
  clear HW3 hmake
  go_loopw [25] (fun i W => ApRel w (w.heap.size + 1) its l i W) (fun i _ => NL - (intOf i).toNat)
  case atStart => exact H0.out
  case round =>
    clear H0
    obtain ⟨k, hk, rfl, hrw, harr⟩ := hrel
    by_cases hlt : k < NL
    · have hkl : k < l.length := by rw [← HNL.out]; exact hlt
      have hb0 : Below w.heap.size w wr := by obtain ⟨_, _, _, _, _, _, g⟩ := hrw; exact g
      obtain ⟨lb, lo, ccs, rfl, hcc, a, b, rfl, ha, hb⟩ := HL.out.at_ k hkl
      obtain ⟨e0, e1, e2⟩ := (hcc.below hb0).three
      simp only [KChange] at e0 e1 e2
      have hx1 := HM.out k; have hx2 := HAS.out k
      have hfn := fold_next hkl (its, [])
      have hsk := HSC.out _ (List.getElem_mem hkl)
      generalize hx : (l.take k).foldl stepAll (its, []) = x at *
      generalize l[k] = c at *
      obtain ⟨W, hW⟩ : ∃ W, W = wr.alloc (.cells #[a, b, .bool c.out] 59) := ⟨_, rfl⟩
      have hbW : Below wr.heap.size wr W := by rw [hW]; exact (Below.refl _ _).alloc (Nat.le_refl _) _
      have harW : W.heap[w.heap.size + 1 + 1]? = some (.cells (stepsC (w.heap.size + 1)) 231 (0, 0)) := (hbW.block _ (Array.getElem?_eq_some_iff.1 harr).1).trans harr
      have hcW : W.heap[wr.heap.size]? = some (.cells #[a, b, .bool c.out] 59 (0, 0)) := by rw [hW]; exact heap_alloc_new wr _
      have h00 : Hid (StRel w (w.heap.size + 1) wr.heap.size c #[a, b, .bool c.out] x (.int .i64 (0 : Nat)) W) := ⟨0, by omega, rfl, hrw.more hbW, harW, hcW⟩
      have hr : w.heap.size ≤ w.heap.size + 1 := Nat.le_succ _
      have hlen1 := step1_len c x
      have HK1 : Hid (∀ W1, Rw w (w.heap.size + 1) (stepN c x 0) W1 → Calls Tryz.prog 143 #[.pointer (some ⟨w.heap.size + 1, 0, none⟩), .agg #[a, b, .bool c.out]] W1 (RwIs w (w.heap.size + 1) (stepN c x 1) W1)) := fun W1 h => keepBelow_any w _ x c a b W1 h hr ha hb hx2 (by omega)
      have HK2 : Hid (∀ W1, Rw w (w.heap.size + 1) (stepN c x 1) W1 → Calls Tryz.prog 144 #[.pointer (some ⟨w.heap.size + 1, 0, none⟩), .agg #[a, b, .bool c.out]] W1 (RwIs w (w.heap.size + 1) (stepN c x 2) W1)) := fun W1 h => passOver_any w _ (step1 c x) c a b W1 h hr ha hb (by omega)
      have HK3 : Hid (∀ W1, Rw w (w.heap.size + 1) (stepN c x 2) W1 → Calls Tryz.prog 145 #[.pointer (some ⟨w.heap.size + 1, 0, none⟩), .agg #[a, b, .bool c.out]] W1 (RwIs w (w.heap.size + 1) (stepN c x 3) W1)) := fun W1 h => put_any w _ (step2 c (step1 c x)) c a b W1 h hr ha hb hsk (by show (step1 c x).2.length ≤ 1000000; omega)
      have HNX : Hid (∀ W1, Rw w (w.heap.size + 1) (stepN c x 3) W1 → W1.heap[w.heap.size + 1 + 1]? = some (.cells (stepsC (w.heap.size + 1)) 231 (0, 0)) → ApRel w (w.heap.size + 1) its l (.int .i64 (k + 1 : Nat)) W1) := fun W1 h1 h2 => ⟨k + 1, hkl, rfl, by rw [hfn]; exact h1, h2⟩
      obtain ⟨qa, ca, rfl, -⟩ := ha.any
      obtain ⟨qb, cb, rfl, -⟩ := hb.any
      have HG : Hid (wr.heap.size ≠ w.heap.size + 1) := by
        obtain ⟨_, _, _, _, g, _⟩ := hrw
        have := g.lt
        unfold Hid; omega
      have HLT := Lib.hid hlt
      have HW := Lib.hid hW
      have f0 := cells_of harW 0; have f1 := cells_of harW 1; have f2 := cells_of harW 2
      simp only [stepsC, List.getElem?_toArray, List.getElem?_cons_zero, List.getElem?_cons_succ] at f0 f1 f2
      rw [HW.out] at f0 f1 f2
      clear hx hx1 hx2 hfn hsk hkl hb0 hcc ha hb hrw harr hbW harW hcW hr hlen1 hW HL HS HSC HM HAS
      generalize c.k.length = l1 at *
      generalize c.v.length = l2 at *
      generalize c.out = o at *
      go_wp2
      rw [← HW.out]
      clear HW f0 f1 f2 e0 e1 e2
      generalize hgG : wr.heap.size = G at *
      clear hgG
      go_loopw [30] (fun i W' => StRel w (w.heap.size + 1) G c #[.slice qa l1 ca, .slice qb l2 cb, .bool o] x i W') (fun i _ => 3 - (intOf i).toNat)
      case atStart => exact h00.out
      case round =>
        clear h00
        obtain ⟨j, hj, rfl, hrw2, har2, hcb2⟩ := hrel
        have g0 := cells_of hcb2 0; have g1 := cells_of hcb2 1; have g2 := cells_of hcb2 2
        simp only [List.getElem?_toArray, List.getElem?_cons_zero, List.getElem?_cons_succ] at g0 g1 g2
        match j, hj with
        | 0, _ =>
          have hidx := fun W' => steps_index0 (.func (.func 143) #[.pointer (some ⟨w.heap.size + 1, 0, none⟩)] #[]) (.func (.func 144) #[.pointer (some ⟨w.heap.size + 1, 0, none⟩)] #[]) (.func (.func 145) #[.pointer (some ⟨w.heap.size + 1, 0, none⟩)] #[]) W'
          have HC := Lib.hid (HK1.out _ hrw2)
          have HAR := Lib.hid har2; have HCB := Lib.hid hcb2
          clear hrw2 har2 hcb2 HK1 HK2 HK3
          go_wp2_with fail
          refine HC.out.mono ?_
          rintro e w4 ⟨rfl, hrw4, hkt⟩
          have HR : Hid (StRel w (w.heap.size + 1) G c #[.slice qa l1 ca, .slice qb l2 cb, .bool o] x (.int .i64 (1 : Nat)) w4) :=
            ⟨1, by omega, rfl, hrw4, hkt _ _ _ _ (by omega) ty_ch.1 HAR.out, hkt _ _ _ _ HG.out ty_ch.2 HCB.out⟩
          clear hrw4 hkt HC
          go_wp2
          go_roundw
          case rel => exact HR.out
          case measure => simp [intOf]
        | 1, _ =>
          have hidx := fun W' => steps_index1 (.func (.func 143) #[.pointer (some ⟨w.heap.size + 1, 0, none⟩)] #[]) (.func (.func 144) #[.pointer (some ⟨w.heap.size + 1, 0, none⟩)] #[]) (.func (.func 145) #[.pointer (some ⟨w.heap.size + 1, 0, none⟩)] #[]) W'
          have HC := Lib.hid (HK2.out _ hrw2)
          have HAR := Lib.hid har2; have HCB := Lib.hid hcb2
          clear hrw2 har2 hcb2 HK1 HK2 HK3
          go_wp2_with fail
          refine HC.out.mono ?_
          rintro e w4 ⟨rfl, hrw4, hkt⟩
          have HR : Hid (StRel w (w.heap.size + 1) G c #[.slice qa l1 ca, .slice qb l2 cb, .bool o] x (.int .i64 (2 : Nat)) w4) :=
            ⟨2, by omega, rfl, hrw4, hkt _ _ _ _ (by omega) ty_ch.1 HAR.out, hkt _ _ _ _ HG.out ty_ch.2 HCB.out⟩
          clear hrw4 hkt HC
          go_wp2
          go_roundw
          case rel => exact HR.out
          case measure => simp [intOf]
        | 2, _ =>
          have hidx := fun W' => steps_index2 (.func (.func 143) #[.pointer (some ⟨w.heap.size + 1, 0, none⟩)] #[]) (.func (.func 144) #[.pointer (some ⟨w.heap.size + 1, 0, none⟩)] #[]) (.func (.func 145) #[.pointer (some ⟨w.heap.size + 1, 0, none⟩)] #[]) W'
          have HC := Lib.hid (HK3.out _ hrw2)
          have HAR := Lib.hid har2; have HCB := Lib.hid hcb2
          clear hrw2 har2 hcb2 HK1 HK2 HK3
          go_wp2_with fail
          refine HC.out.mono ?_
          rintro e w4 ⟨rfl, hrw4, hkt⟩
          have HR : Hid (StRel w (w.heap.size + 1) G c #[.slice qa l1 ca, .slice qb l2 cb, .bool o] x (.int .i64 (3 : Nat)) w4) :=
            ⟨3, by omega, rfl, hrw4, hkt _ _ _ _ (by omega) ty_ch.1 HAR.out, hkt _ _ _ _ HG.out ty_ch.2 HCB.out⟩
          clear hrw4 hkt HC
          go_wp2
          go_roundw
          case rel => exact HR.out
          case measure => simp [intOf]
        | 3, _ =>
          have HR := Lib.hid (HNX.out _ hrw2 har2)
          clear hrw2 har2 hcb2 HK1 HK2 HK3
          go_wp2
          go_roundw
          case rel => exact HR.out
          case measure => simp [intOf]; have := HLT.out; omega
    · obtain rfl : k = NL := by have := HNL.out; omega
      have htk : l.take k = l := List.take_of_length_le (by rw [← HNL.out]; exact Nat.le_refl _)
      have hmm := HM.out k
      have has := HAS.out k
      rw [htk] at hrw hmm has
      have HAP : Hid (applyN its l = (l.foldl stepAll (its, [])).2 ++ (l.foldl stepAll (its, [])).1) := rfl
      generalize l.foldl stepAll (its, []) = x at *
      have HK := Lib.hid (keep_any w (w.heap.size + 1) x x.1.length wr hrw (Nat.le_succ _) (Nat.le_refl _) has (by omega))
      obtain ⟨pl, cl, _, mv, hra, _, _⟩ := hrw
      have c0 := cells_of hra 0
      simp only [List.getElem?_toArray, List.getElem?_cons_zero] at c0
      have HTK : Hid (x.1.take x.1.length = x.1) := List.take_length
      generalize x.1.length = NX at *
      clear hra hmm has htk harr HM HAS HL HS HSC
      go_wp2_with fail
      refine HK.out.mono ?_
      rintro e w4 ⟨rfl, ⟨pl', cl', _, mv', hra', hit', hb'⟩, _⟩
      dsimp only at hit'
      rw [HTK.out, ← HAP.out] at hit'
      have c1 := cells_of hra' 1
      simp only [List.getElem?_toArray, List.getElem?_cons_zero, List.getElem?_cons_succ] at c1
      have HF : Hid (ItemsTold w (applyN its l) (.returned mv') w4) := ⟨_, rfl, hit', hb'⟩
      obtain ⟨pm, cm, rfl, -⟩ := hit'.at_
      clear hra' hit' hb' HK c0
      generalize (applyN its l).length = NA at *
      go_wp2
      go_ret
      exact HF.out
end Go.Proofs.YtlagllhhahomlaaGreat.Sl.Nd.Lf
/- Nodes in a program: what is taken, and that it lies in blocks of its own. -/
namespace Go.Proofs.YtlagllhhahomlaaGreat.Sl.Nd
open Go Go.RowKit Go.By
theorem NdSt.open3 {w0 : World} {b : Nat} {w : World} {sv : Value} {i : Nat} {n : Nd} (h : NdSt w0 b w sv i n) :
    ∃ pi ci pk ck pd cd fv, RdAt w b sv i n.leaf (.slice pi n.its.length ci) (.slice pk n.ks.length ck) (.slice pd n.kids.length cd) fv ∧ IsNd w (.agg #[.bool n.leaf, .slice pi n.its.length ci, .slice pk n.ks.length ck, .slice pd n.kids.length cd]) n pi ci pk ck pd cd ∧ Below w0.heap.size w0 w ∧ (∀ k, (Value.slice pk n.ks.length ck).ownBlock = some k ∨ (Value.slice pi n.its.length ci).ownBlock = some k ∨ (Value.slice pd n.kids.length cd).ownBlock = some k → b ≤ k) ∧
      ∀ w' : World, (∀ k, b ≤ k → k < w.heap.size → w'.heap[k]? = w.heap[k]?) → IsNd w' (.agg #[.bool n.leaf, .slice pi n.its.length ci, .slice pk n.ks.length ck, .slice pd n.kids.length cd]) n pi ci pk ck pd cd := by
  obtain ⟨iv, kv, dv, fv, h1, h2, h3, h4, h5⟩ := h
  obtain ⟨pi, ci, rfl, r2⟩ := h2.at_
  obtain ⟨pk, ck, rfl, r3⟩ := h3.at_
  obtain ⟨pd, cd, rfl, r4⟩ := h4.at_
  refine ⟨pi, ci, pk, ck, pd, cd, fv, h1, ⟨rfl, r2, r3, r4⟩, h5, (by obtain ⟨cs, _, a2, _⟩ := h3; obtain ⟨ds, _, b2, _⟩ := h2; exact fun k hk => by rcases hk with hk | hk | hk; exact (a2.lt k hk).1; exact (b2.lt k hk).1; exact (h4.1.lt k hk).1), fun w' hk => ?_⟩
  have own : ∀ {s : Nat} {e : TypeId} {v : Value} {n : Nat} {xs : List Value}, w.ownsRow b e s v n xs → w'.ownsRow b e s v n xs := fun h => owns_stay h (fun k hk' => hk k (h.lt k hk').1 (h.lt k hk').2)
  have txt : ∀ {v : Value} {l : List Nat}, Txt w b v l → Txt w' b v l := fun h => ⟨own h.1, h.2⟩
  have g2 : ItRow w' b (.slice pi n.its.length ci) n.its := by
    obtain ⟨cs, a1, a2, a3⟩ := h2
    exact ⟨cs, a1, own a2, fun j hj hj' => ⟨txt (a3 j hj hj').1, txt (a3 j hj hj').2⟩⟩
  have g3 : KyRow w' b (.slice pk n.ks.length ck) n.ks := by
    obtain ⟨cs, a1, a2, a3⟩ := h3
    exact ⟨cs, a1, own a2, fun j hj hj' => txt (a3 j hj hj')⟩
  have g4 : KdRow w' b (.slice pd n.kids.length cd) n.kids := ⟨own h4.1, h4.2⟩
  obtain ⟨_, _, e2, s2⟩ := g2.at_
  obtain ⟨_, _, e3, s3⟩ := g3.at_
  obtain ⟨_, _, e4, s4⟩ := g4.at_
  simp only [Value.slice.injEq, true_and] at e2 e3 e4
  obtain ⟨rfl, rfl⟩ := e2
  obtain ⟨rfl, rfl⟩ := e3
  obtain ⟨rfl, rfl⟩ := e4
  exact ⟨rfl, s2, s3, s4⟩
def Tells3 (w : World) (l : List Nat) (z : Ending) (w' : World) : Prop :=
  ((takeNd l = none ∧ z = .returned (.tuple #[.agg #[.bool false, .slice none 0 0, .slice none 0 0, .slice none 0 0], .int .i64 2])) ∨
    ∃ n pi ci pk ck pd cd, takeNd l = some n ∧ z = .returned (.tuple #[.agg #[.bool n.leaf, .slice pi n.its.length ci, .slice pk n.ks.length ck, .slice pd n.kids.length cd], .int .i64 0]) ∧ IsNd w' (.agg #[.bool n.leaf, .slice pi n.its.length ci, .slice pk n.ks.length ck, .slice pd n.kids.length cd]) n pi ci pk ck pd cd ∧ (∀ k, (Value.slice pk n.ks.length ck).ownBlock = some k ∨ (Value.slice pi n.its.length ci).ownBlock = some k ∨ (Value.slice pd n.kids.length cd).ownBlock = some k → w.heap.size ≤ k) ∧
      ∀ W' : World, (∀ k, w.heap.size ≤ k → k < w'.heap.size → W'.heap[k]? = w'.heap[k]?) → IsNd W' (.agg #[.bool n.leaf, .slice pi n.its.length ci, .slice pk n.ks.length ck, .slice pd n.kids.length cd]) n pi ci pk ck pd cd) ∧ Below w.heap.size w w'
set_option maxRecDepth 100000 in
set_option maxHeartbeats 4000000 in
theorem take3_any (sv : Value) (l : List Nat) (w : World) (hsv : Bytes w sv l) :
    Calls Tryz.prog 107 #[sv] w (Tells3 w l) := by
  obtain ⟨p, cap, rfl, _⟩ := hsv.any
  obtain ⟨w1, hw1⟩ : ∃ W, W = w.alloc (.cells #[.bool false, .slice none 0 0, .slice none 0 0, .slice none 0 0] 38) := ⟨_, rfl⟩
  have hz1 : w1.heap.size = w.heap.size + 1 := by rw [hw1]; simp
  have ha1 : AnsAt w1 w.heap.size := by rw [hw1]; exact heap_alloc_new w _
  have hb1 : Below w.heap.size w w1 := by rw [hw1]; exact (Below.refl _ _).alloc (Nat.le_refl _) _
  have HSV := Lib.hid (hsv.below hb1)
  clear hsv
  have HANS : Hid (∀ w', Below w1.heap.size w1 w' → AnsAt w' w.heap.size) := fun w' hb => (hb.block _ (by omega)).trans ha1
  have HBW : Hid (∀ w', Below w1.heap.size w1 w' → Below w.heap.size w w') := fun w' hb => hb1.trans (hb.mono (by omega))
  have h0 : RdAt (w1.alloc (.cells #[.slice p l.length cap, .int .i64 0, .bool false, .slice none 0 0, .slice none 0 0, .slice none 0 0, .nilFunc] 226)) w1.heap.size (.slice p l.length cap) 0 false (.slice none 0 0) (.slice none 0 0) (.slice none 0 0) .nilFunc := heap_alloc_new w1 _
  have H0 := Lib.hid (TkRel.r0 (l := l) h0 ((Below.refl _ _).alloc (Nat.le_refl _) _))
  have HW1 := Lib.hid hw1
  have HZ1 := Lib.hid hz1
  clear h0 hb1 ha1 hw1
  go_enter Tryz.func107, Tryz.ntmps107
  go_wp2
  rw [← HW1.out]
  rw [← hz1]
  clear hz1
  go_loopw [14] (fun i wr => TkRel w1 (.slice p l.length cap) l i wr) (fun i _ => 7 - (intOf i).toNat)
  case atStart => exact H0.out
  case round =>
    clear H0 HW1
    rcases step_any HSV.out hrel with ⟨k, hk, rfl, f, hst⟩ | ⟨rfl, hend⟩
    · have hent := hst.enter
      have hidx := hst.index
      have HC := Lib.hid hst.call
      have hki : (k : Int) < 4 := by omega
      clear hst hrel hk
      go_wp2_with fail
      refine HC.out.mono ?_
      clear hent hidx
      rintro e w2 (⟨rfl, hr⟩ | ⟨rfl, hn, hb⟩)
      · have HR := Lib.hid hr
        clear hr HC
        go_wp2
        go_roundw
        case rel => exact HR.out
        case measure => simp [intOf]; omega
      · have HN := Lib.hid hn
        have hA := HANS.out _ hb
        have a0 := cells_of hA 0; have a1 := cells_of hA 1; have a2 := cells_of hA 2; have a3 := cells_of hA 3
        have q0 := free_of hA 0; have q1 := free_of hA 1; have q2 := free_of hA 2; have q3 := free_of hA 3
        have HX := Lib.hid (ans_set hA (.bool false) (.slice none 0 0) (.slice none 0 0) (.slice none 0 0))
        have HBX := Lib.hid (ans_below (HBW.out _ hb) (Nat.le_refl _) (.bool false) (.slice none 0 0) (.slice none 0 0) (.slice none 0 0))
        clear hA hb hn HC HANS HBW HSV
        go_wp2
        exact bodyPost_ret (took_ret rfl rfl HX.out rfl) rfl ⟨.inl ⟨HN.out, rfl⟩, HBX.out⟩
    · clear hrel
      cases hend with
      | r4 hS hy =>
        rename_i n i'
        have HY := Lib.hid hy
        obtain ⟨pi, ci, pk, ck, pd, cd, fv, hr, hn, hb, hown, hstay⟩ := hS.open3
        have hA := HANS.out _ hb
        have a0 := cells_of hA 0; have a1 := cells_of hA 1; have a2 := cells_of hA 2; have a3 := cells_of hA 3
        have q0 := free_of hA 0; have q1 := free_of hA 1; have q2 := free_of hA 2; have q3 := free_of hA 3
        have c2 := cells_of hr 2
        have c3 := cells_of hr 3
        have c4 := cells_of hr 4
        have c5 := cells_of hr 5
        simp only [List.getElem?_toArray, List.getElem?_cons_zero, List.getElem?_cons_succ] at c2 c3 c4 c5
        have HX := Lib.hid (ans_set hA (.bool n.leaf) (.slice pi n.its.length ci) (.slice pk n.ks.length ck) (.slice pd n.kids.length cd))
        have HBX := Lib.hid (ans_below (HBW.out _ hb) (Nat.le_refl _) (.bool n.leaf) (.slice pi n.its.length ci) (.slice pk n.ks.length ck) (.slice pd n.kids.length cd))
        have HIX : Hid (∀ W' : World, (∀ k, w.heap.size ≤ k → k < wr.heap.size → W'.heap[k]? = ((((wr.setCell ⟨w.heap.size, 0, none⟩ (.bool n.leaf)).setCell ⟨w.heap.size, 1, none⟩ (.slice pi n.its.length ci)).setCell ⟨w.heap.size, 2, none⟩ (.slice pk n.ks.length ck)).setCell ⟨w.heap.size, 3, none⟩ (.slice pd n.kids.length cd)).heap[k]?) → IsNd W' (.agg #[.bool n.leaf, .slice pi n.its.length ci, .slice pk n.ks.length ck, .slice pd n.kids.length cd]) n pi ci pk ck pd cd) := fun W' hW' =>
          hstay W' (fun k hk hk2 => (hW' k (by have := HZ1.out; omega) hk2).trans (ans_other (A := w.heap.size) (by have := HZ1.out; omega) (.bool n.leaf) (.slice pi n.its.length ci) (.slice pk n.ks.length ck) (.slice pd n.kids.length cd)))
        have HSZ : Hid (((((wr.setCell ⟨w.heap.size, 0, none⟩ (.bool n.leaf)).setCell ⟨w.heap.size, 1, none⟩ (.slice pi n.its.length ci)).setCell ⟨w.heap.size, 2, none⟩ (.slice pk n.ks.length ck)).setCell ⟨w.heap.size, 3, none⟩ (.slice pd n.kids.length cd)).heap.size = wr.heap.size) := by unfold Hid; simp [World.setCell]
        have HOWN : Hid (∀ k, (Value.slice pk n.ks.length ck).ownBlock = some k ∨ (Value.slice pi n.its.length ci).ownBlock = some k ∨ (Value.slice pd n.kids.length cd).ownBlock = some k → w.heap.size ≤ k) := fun k hk => by have := hown k hk; have := HZ1.out; omega
        have HFIN : Hid (∀ z w', z = .returned (.tuple #[.agg #[.bool n.leaf, .slice pi n.its.length ci, .slice pk n.ks.length ck, .slice pd n.kids.length cd], .int .i64 0]) → w'.heap.size = wr.heap.size → (∀ W' : World, (∀ k, w.heap.size ≤ k → k < wr.heap.size → W'.heap[k]? = w'.heap[k]?) → IsNd W' (.agg #[.bool n.leaf, .slice pi n.its.length ci, .slice pk n.ks.length ck, .slice pd n.kids.length cd]) n pi ci pk ck pd cd) → Below w.heap.size w w' → Tells3 w l z w') := fun z w' h1 hz h2 h3 => ⟨.inr ⟨n, pi, ci, pk, ck, pd, cd, HY.out, h1, h2 w' (fun _ _ _ => rfl), HOWN.out, fun W' hW' => h2 W' (fun k hk hk2 => hW' k hk (by rw [hz]; exact hk2))⟩, h3⟩
        clear hS hy hr hn hb hown hstay hA HANS HBW HSV
        generalize n.its.length = l1 at *
        generalize n.ks.length = l2 at *
        generalize n.kids.length = l3 at *
        generalize n.leaf = lf at *
        go_wp2
        exact bodyPost_ret (took_ret rfl rfl HX.out rfl) rfl (HFIN.out _ _ rfl HSZ.out HIX.out HBX.out)
end Go.Proofs.YtlagllhhahomlaaGreat.Sl.Nd
