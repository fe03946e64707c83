/- Nodes in a program: the reader's four parts. -/
import Derived.Test.YtbjjaabmdjbodaaNdN
import Derived.Laws.EntriesVeiled
namespace Go.By
open Go Go.RowKit
theorem pMany_snoc {α : Type} {p : List Nat → Option (α × List Nat)} {x : α} {r' : List Nat} : ∀ {k : Nat} {l : List Nat} {xs : List α} {r : List Nat}, pMany p k l = some (xs, r) → p r = some (x, r') → pMany p (k + 1) l = some (xs ++ [x], r')
  | 0, l, xs, r, h, hp => by
    rw [pMany, Option.some.injEq, Prod.mk.injEq] at h
    obtain ⟨rfl, rfl⟩ := h
    rw [pMany, hp]
    rfl
  | k + 1, l, xs, r, h, hp => by
    rw [pMany] at h
    cases h1 : p l with
    | none => rw [h1] at h; cases h
    | some y =>
      obtain ⟨y, s⟩ := y
      rw [h1] at h
      dsimp only at h
      cases h2 : pMany p k s with
      | none => rw [h2] at h; cases h
      | some z =>
        obtain ⟨ys, t⟩ := z
        rw [h2] at h
        simp only [Option.some.injEq, Prod.mk.injEq] at h
        obtain ⟨rfl, rfl⟩ := h
        rw [pMany, h1]
        dsimp only
        rw [pMany_snoc h2 hp]
        rfl
theorem pMany_snoc_no {α : Type} {p : List Nat → Option (α × List Nat)} : ∀ {k : Nat} {l : List Nat} {xs : List α} {r : List Nat}, pMany p k l = some (xs, r) → p r = none → pMany p (k + 1) l = none
  | 0, l, xs, r, h, hp => by
    rw [pMany, Option.some.injEq, Prod.mk.injEq] at h
    obtain ⟨rfl, rfl⟩ := h
    rw [pMany, hp]
  | k + 1, l, xs, r, h, hp => by
    rw [pMany] at h
    cases h1 : p l with
    | none => rw [h1] at h; cases h
    | some y =>
      obtain ⟨y, s⟩ := y
      rw [h1] at h
      dsimp only at h
      cases h2 : pMany p k s with
      | none => rw [h2] at h; cases h
      | some z =>
        obtain ⟨ys, t⟩ := z
        rw [h2] at h
        simp only [Option.some.injEq, Prod.mk.injEq] at h
        obtain ⟨rfl, rfl⟩ := h
        rw [pMany, h1]
        dsimp only
        rw [pMany_snoc_no h2 hp]
theorem pMany_none_succ {α : Type} {p : List Nat → Option (α × List Nat)} : ∀ {k : Nat} {l : List Nat}, pMany p k l = none → pMany p (k + 1) l = none
  | 0, l, h => by cases h
  | k + 1, l, h => by
    rw [pMany] at h
    rw [pMany]
    cases h1 : p l with
    | none => rfl
    | some y =>
      obtain ⟨y, s⟩ := y
      rw [h1] at h
      dsimp only at h ⊢
      cases h2 : pMany p k s with
      | none => rw [pMany_none_succ h2]
      | some z =>
        rw [h2] at h
        cases h
end Go.By
namespace Go.Proofs.Ytbjjaabmdjbodaa
open Go Go.RowKit Go.By

/-- One thing after the other is taken: what the taker of one tells. -/
structure OneTake {α : Type} (w0 : World) (b : Nat) (l : List Nat) (p : List Nat → Option (α × List Nat)) (f : FuncId) (S : World → Nat → List α → Prop) : Prop where
  enter : ∀ args w, (callFunc f args).run Try.prog w = .ok (.enter f args) w
  cell : ∀ w i xs, S w i xs → w.cell? ⟨b, 6, none⟩ = some (.func (.func f) #[.pointer (some ⟨b, 0, none⟩)] #[])
  below : ∀ w i xs, S w i xs → Below w0.heap.size w0 w
  take : ∀ w i xs, S w i xs → i ≤ l.length → xs.length ≤ 1000 → Calls Try.prog f #[.pointer (some ⟨b, 0, none⟩)] w fun e w' => ∃ x i' ok, e = .returned (.bool ok) ∧ S w' i' (xs ++ [x]) ∧ i' ≤ l.length ∧ ((ok = true ∧ p (l.drop i) = some (x, l.drop i')) ∨ (ok = false ∧ p (l.drop i) = none))

/-- How many have been taken. -/
def EachRel {α : Type} (w0 : World) (l : List Nat) (p : List Nat → Option (α × List Nat)) (S : World → Nat → List α → Prop) (y : Nat) (fl i : Value) (wr : World) : Prop :=
  ∃ k : Nat, k ≤ y ∧ i = .int .i64 k ∧ ((fl = .bool true ∧ ∃ xs i', S wr i' xs ∧ xs.length = k ∧ i' ≤ l.length ∧ pMany p k (l.drop 2) = some (xs, l.drop i')) ∨ (fl = .bool false ∧ pMany p k (l.drop 2) = none ∧ Below w0.heap.size w0 wr))
def EachTold {α : Type} (w0 : World) (l : List Nat) (p : List Nat → Option (α × List Nat)) (S : World → Nat → List α → Prop) (e : Ending) (w' : World) : Prop :=
  (e = .returned (.bool true) ∧ ∃ xs i', S w' i' xs ∧ 2 ≤ l.length ∧ i' ≤ l.length ∧ pMany p (atB l 1) (l.drop 2) = some (xs, l.drop i')) ∨ (e = .returned (.bool false) ∧ (l.length ≤ 1 ∨ (2 ≤ l.length ∧ pMany p (atB l 1) (l.drop 2) = none)) ∧ Below w0.heap.size w0 w')

set_option maxRecDepth 100000 in
set_option maxHeartbeats 1000000 in
theorem takeEach_any {α : Type} (w0 : World) (b : Nat) (w : World) (sv : Value) (l : List Nat) (lf : Bool) (iv kv dv fv : Value) (p : List Nat → Option (α × List Nat)) (f : FuncId) (S : World → Nat → List α → Prop) (hO : OneTake w0 b l p f S)
    (h : RdAt w b sv 1 lf iv kv dv fv) (hsv : Bytes w0 sv l) (h0 : Below w0.heap.size w0 w) (hb : w0.heap.size ≤ b) (hi : 1 ≤ l.length) (hst : ∀ w', RdAt w' b sv 2 lf iv kv dv fv → Only b w w' → S w' 2 []) :
    Calls Try.prog 18 #[.pointer (some ⟨b, 0, none⟩)] w (EachTold w0 l p S) := by
  have HC := Lib.hid (size_any w0 b w sv l 1 lf iv kv dv fv h hsv h0 hb hi)
  have HB1 := Lib.hid (fun w' (ho : Only b w w') => Below.only h0 hb (Nat.le_of_lt (Nat.lt_of_le_of_lt hb h.lt)) ho)
  have HST := Lib.hid hst; have HO := Lib.hid hO
  have HY := Lib.hid (fun (hl : 1 < l.length) => hsv.at_lt hl)
  clear h hsv h0 hb hst hO hi
  go_enter Try.func18, Try.ntmps18
  go_wp2_with fail
  refine HC.out.mono ?_
  rintro e w1 (⟨hil, rfl, hr, ho⟩ | ⟨hil, rfl, hr, ho⟩)
  · have hy := HY.out hil
    have HIL := Lib.hid hil
    have hrel0 : EachRel w0 l p S (atB l 1) (.bool true) (.int .i64 (0 : Nat)) w1 := ⟨0, Nat.zero_le _, rfl, .inl ⟨rfl, [], 2, HST.out w1 hr ho, rfl, by omega, rfl⟩⟩
    have HREL := Lib.hid hrel0
    have HEND : Hid (∀ e w', ((e = .returned (.bool true) ∧ ∃ xs i', S w' i' xs ∧ 2 ≤ l.length ∧ i' ≤ l.length ∧ pMany p (atB l 1) (l.drop 2) = some (xs, l.drop i')) ∨ (e = .returned (.bool false) ∧ (l.length ≤ 1 ∨ (2 ≤ l.length ∧ pMany p (atB l 1) (l.drop 2) = none)) ∧ Below w0.heap.size w0 w')) → EachTold w0 l p S e w') := fun _ _ h => h
    generalize hya : atB l 1 = y at *
    have hyi : (y : Int) < 256 := by omega
    clear hrel0 hr ho hil HC HST HY
    go_wp2
    go_loopw [4, 11] (fun fl i W => EachRel w0 l p S y fl i W) (fun _ i _ => y - (intOf i).toNat)
    case atStart => exact HREL.out
    case round =>
      clear HREL
      obtain ⟨k, hk, rfl, hst⟩ := hrel
      by_cases hlt : k < y
      · have HK := Lib.hid hlt
        rcases hst with ⟨rfl, xs, i', hS, hxl, hi', hp⟩ | ⟨rfl, hp, hbl⟩
        · have hcell := HO.out.cell wr i' xs hS
          have hent := HO.out.enter
          have HT := Lib.hid (HO.out.take wr i' xs hS hi' (by omega))
          have HP := Lib.hid hp; have HXL := Lib.hid hxl
          clear hS hxl hi' hp
          go_wp2_with fail
          refine HT.out.mono ?_
          clear hent hcell
          rintro e w2 ⟨x, i2, ok, rfl, hS2, hi2, htold⟩
          have hrel2 : EachRel w0 l p S y (.bool ok) (.int .i64 (k + 1 : Nat)) w2 := by
            refine ⟨k + 1, HK.out, rfl, ?_⟩
            rcases htold with ⟨rfl, ht⟩ | ⟨rfl, ht⟩
            · exact .inl ⟨rfl, _, i2, hS2, by rw [List.length_append, HXL.out]; rfl, hi2, pMany_snoc HP.out ht⟩
            · exact .inr ⟨rfl, pMany_snoc_no HP.out ht, HO.out.below _ _ _ hS2⟩
          have HR := Lib.hid hrel2
          clear hrel2 htold hS2 hi2 HT
          go_wp2
          go_roundw
          case rel => exact HR.out
          case measure => simp [intOf]; have := HK.out; omega
        · have hrel2 : EachRel w0 l p S y (.bool false) (.int .i64 (k + 1 : Nat)) wr := ⟨k + 1, HK.out, rfl, .inr ⟨rfl, pMany_none_succ hp, hbl⟩⟩
          have HR := Lib.hid hrel2
          clear hrel2 hp hbl
          go_wp2
          go_roundw
          case rel => exact HR.out
          case measure => simp [intOf]; have := HK.out; omega
      · obtain rfl : k = y := by omega
        rcases hst with ⟨rfl, xs, i', hS, hxl, hi', hp⟩ | ⟨rfl, hp, hbl⟩
        · have HF := Lib.hid (HEND.out _ wr (.inl ⟨rfl, xs, i', hS, HIL.out, hi', hp⟩))
          clear hS hxl hi' hp
          go_wp2
          go_ret
          exact HF.out
        · have HF := Lib.hid (HEND.out _ wr (.inr ⟨rfl, .inr ⟨HIL.out, hp⟩, hbl⟩))
          clear hp hbl
          go_wp2
          go_ret
          exact HF.out
  · have HF : Hid (EachTold w0 l p S (.returned (.bool false)) w1) := .inr ⟨rfl, .inl hil, HB1.out w1 ho⟩
    clear hr ho hil HC HST HY
    go_wp2
    go_loopw [4, 11] (fun fl n W => fl = .bool false ∧ n = .int .i64 0 ∧ W = w1) (fun _ _ _ => 0)
    case atStart => exact ⟨rfl, rfl, rfl⟩
    case round =>
      obtain ⟨rfl, rfl, rfl⟩ := hrel
      go_wp2
      go_ret
      exact HF.out

/-- What the letter says. -/
def LetTold (w0 : World) (b : Nat) (w : World) (sv : Value) (l : List Nat) (e : Ending) (w' : World) : Prop :=
  (e = .returned (.bool true) ∧ 1 ≤ l.length ∧ atB l 0 = 76 ∧ RdAt w' b sv 1 true (.slice none 0 0) (.slice none 0 0) (.slice none 0 0) (.func (.func 34) #[.pointer (some ⟨b, 0, none⟩)] #[]) ∧ Only b w w') ∨
  (e = .returned (.bool true) ∧ 1 ≤ l.length ∧ atB l 0 = 78 ∧ RdAt w' b sv 1 false (.slice none 0 0) (.slice none 0 0) (.slice none 0 0) (.func (.func 35) #[.pointer (some ⟨b, 0, none⟩)] #[]) ∧ Only b w w') ∨
  (e = .returned (.bool false) ∧ (l.length < 1 ∨ (1 ≤ l.length ∧ atB l 0 ≠ 76 ∧ atB l 0 ≠ 78)) ∧ Only b w w')

set_option maxRecDepth 100000 in
theorem takeLetter_any (w0 : World) (b : Nat) (w : World) (sv : Value) (l : List Nat) (h : RdAt w b sv 0 false (.slice none 0 0) (.slice none 0 0) (.slice none 0 0) .nilFunc) (hsv : Bytes w0 sv l) (h0 : Below w0.heap.size w0 w) (hb : w0.heap.size ≤ b) :
    Calls Try.prog 17 #[.pointer (some ⟨b, 0, none⟩)] w (LetTold w0 b w sv l) := by
  by_cases h1 : 0 + 1 ≤ l.length
  · have HC := Lib.hid (next_yes w0 b w sv l 0 false (.slice none 0 0) (.slice none 0 0) (.slice none 0 0) .nilFunc h hsv 1 h1)
    have hcl : atB l 0 < 256 := hsv.at_lt (by omega)
    unfold NextYes at HC
    rw [pc_one h1] at HC
    have HTO : Hid (∀ e w', ((e = .returned (.bool true) ∧ 1 ≤ l.length ∧ atB l 0 = 76 ∧ RdAt w' b sv 1 true (.slice none 0 0) (.slice none 0 0) (.slice none 0 0) (.func (.func 34) #[.pointer (some ⟨b, 0, none⟩)] #[]) ∧ Only b w w') ∨
      (e = .returned (.bool true) ∧ 1 ≤ l.length ∧ atB l 0 = 78 ∧ RdAt w' b sv 1 false (.slice none 0 0) (.slice none 0 0) (.slice none 0 0) (.func (.func 35) #[.pointer (some ⟨b, 0, none⟩)] #[]) ∧ Only b w w') ∨
      (e = .returned (.bool false) ∧ (l.length < 1 ∨ (1 ≤ l.length ∧ atB l 0 ≠ 76 ∧ atB l 0 ≠ 78)) ∧ Only b w w')) → LetTold w0 b w sv l e w') := fun _ _ h => h
    have H0 := Lib.hid h0; have HB := Lib.hid hb; have HS := Lib.hid h.lt; have HL := Lib.hid h1
    clear h hsv h0 hb h1
    generalize atB l 0 = y at *
    have hy : (y : Int) < 256 := by omega
    go_enter Try.func17, Try.ntmps17
    go_wp2_with fail
    refine HC.out.mono ?_
    rintro e w1 ⟨u, c, rfl, hbq, hr, ho⟩
    have hb1 : Below w0.heap.size w0 w1 := Below.only H0.out HB.out (Nat.le_of_lt (Nat.lt_of_le_of_lt HB.out HS.out)) ho
    obtain ⟨b1, o1, rfl, hcell⟩ := (hbq.below hb1).spot 0 (by simp)
    rw [show atB [y] 0 = y by simp [atB], Nat.add_zero] at hcell
    have c2 := cells_of hr 2
    have c6 := cells_of hr 6
    have f2 := free_of hr 2
    have f6 := free_of hr 6
    simp only [List.getElem?_toArray, List.getElem?_cons_zero, List.getElem?_cons_succ] at c2 c6
    clear hbq hb1 HC
    by_cases h76 : y = 76
    · have HF := Lib.hid (HTO.out (.returned (.bool true)) _ (.inl ⟨rfl, HL.out, h76, (hr.setLf true).setFv (.func (.func 34) #[.pointer (some ⟨b, 0, none⟩)] #[]), (ho.trans (Only.set b 2 _ _)).trans (Only.set b 6 _ _)⟩))
      have hy76 : ((y : Int) == 76) = true := by rw [h76]; rfl
      clear hr ho h76
      go_wp2
      go_ret
      exact HF.out
    · have hn76 : ((y : Int) == 76) = false := by rw [beq_eq_false_iff_ne]; omega
      by_cases h78 : y = 78
      · have HF := Lib.hid (HTO.out (.returned (.bool true)) _ (.inr (.inl ⟨rfl, HL.out, h78, hr.setFv (.func (.func 35) #[.pointer (some ⟨b, 0, none⟩)] #[]), ho.trans (Only.set b 6 _ _)⟩)))
        have hy78 : ((y : Int) == 78) = true := by rw [h78]; rfl
        clear hr ho h78 h76
        go_wp2
        go_ret
        exact HF.out
      · have hn78 : ((y : Int) == 78) = false := by rw [beq_eq_false_iff_ne]; omega
        have HF := Lib.hid (HTO.out (.returned (.bool false)) w1 (.inr (.inr ⟨rfl, .inr ⟨HL.out, h76, h78⟩, ho⟩)))
        clear hr ho h76 h78
        go_wp2
        go_ret
        exact HF.out
  · have HC := Lib.hid (next_no w0 b w sv l 0 false (.slice none 0 0) (.slice none 0 0) (.slice none 0 0) .nilFunc h hsv 1 (Nat.zero_le _) (by omega) (by omega))
    have HL : Hid (l.length < 1) := by unfold Hid; omega
    unfold NextNo at HC
    clear h hsv h0 hb h1
    go_enter Try.func17, Try.ntmps17
    go_wp2_with fail
    refine HC.out.mono ?_
    rintro e w1 ⟨rfl, hr, ho⟩
    have HO := Lib.hid ho; clear hr ho
    go_wp2
    go_ret
    exact .inr (.inr ⟨rfl, .inl HL.out, HO.out⟩)

set_option maxRecDepth 100000 in
theorem end_any (w0 : World) (b : Nat) (w : World) (sv : Value) (l : List Nat) (i : Nat) (lf : Bool) (iv kv dv fv : Value) (h : RdAt w b sv i lf iv kv dv fv) (hsv : Bytes w0 sv l) (hi : i ≤ l.length) :
    Calls Try.prog 19 #[.pointer (some ⟨b, 0, none⟩)] w fun e w' => e = .returned (.bool (decide (i = l.length))) ∧ w' = w.drew := by
  obtain ⟨p, cap, rfl, _⟩ := hsv.any
  have hm := hsv.short
  unfold maxLen at hm
  clear hsv
  have c0 := cells_of h 0
  have c1 := cells_of h 1
  simp only [List.getElem?_toArray, List.getElem?_cons_zero, List.getElem?_cons_succ] at c0 c1
  clear h
  have E : Hid (((i : Int) == (l.length : Int)) = decide (i = l.length)) := by
    unfold Hid
    rw [Bool.eq_iff_iff]; simp; omega
  go_enter Try.func19, Try.ntmps19
  go_wp2
  go_region
  go_wp2
  go_ret
  exact ⟨by rw [← E.out]; rfl, rfl⟩

set_option maxRecDepth 100000 in
theorem be_any {b : Nat} {w : World} {sv : Value} {i : Nat} {fv : Value} {n : Nd} {pi pk pd : Option Addr} {ci ck cd : Nat} (h : RdAt w b sv i n.leaf (.slice pi n.its.length ci) (.slice pk n.ks.length ck) (.slice pd n.kids.length cd) fv) (hn : IsNd w (.agg #[.bool n.leaf, .slice pi n.its.length ci, .slice pk n.ks.length ck, .slice pd n.kids.length cd]) n pi ci pk ck pd cd) :
    Calls Try.prog 20 #[.pointer (some ⟨b, 0, none⟩)] w fun e w' => e = .returned (.bool (mayNd n)) ∧ Below w.heap.size w w' := by
  have HC := Lib.hid (may_any hn)
  have c2 := cells_of h 2
  have c3 := cells_of h 3
  have c4 := cells_of h 4
  have c5 := cells_of h 5
  simp only [List.getElem?_toArray, List.getElem?_cons_zero, List.getElem?_cons_succ] at c2 c3 c4 c5
  clear h hn
  go_enter Try.func20, Try.ntmps20
  go_wp2_with fail
  refine HC.out.mono ?_
  rintro e w1 ⟨rfl, hr⟩
  have HR := Lib.hid hr; clear hr
  go_wp2
  go_ret
  exact ⟨rfl, HR.out⟩
end Go.Proofs.Ytbjjaabmdjbodaa

