/- Nodes in a program: bytes.Compare; which keys may follow. -/
import Derived.Test.YtlagllhhahomlaaGreatMNdO
import Derived.Test.YtlagllhhahomlaaGreatMCmp
import Derived.Test.YtlagllhhahomlaaGreatMLfP
namespace Go.By
open Go Go.RowKit
def follows (l m : List Nat) : Bool := decide (m.length ≤ 40) && lessN l m
def risesFrom (l : List Nat) : List (List Nat) → Bool
  | [] => true
  | k :: r => follows l k && risesFrom k r
def itsFrom (l : List Nat) : List NIt → Bool
  | [] => true
  | i :: r => (follows l i.k && decide (i.v.length ≤ 120)) && itsFrom i.k r
theorem lessN_pos {l m : List Nat} (h : lessN l m = true) : 1 ≤ m.length := by
  cases m with
  | nil => rw [lessN_nil_right] at h; cases h
  | cons _ _ => simp
theorem lessN_nil {m : List Nat} : lessN [] m = decide (1 ≤ m.length) := by
  cases m with
  | nil => rfl
  | cons _ _ => simp [lessN]
theorem risesFrom_eq : ∀ (l : List Nat) (ks : List (List Nat)), risesFrom l ks = (ks.all mayK && (risesN ks && (ks.head?.all (lessN l))))
  | l, [] => rfl
  | l, [k] => by
    unfold risesFrom risesFrom follows mayK risesN
    cases h : lessN l k with
    | false => simp [h]
    | true =>
      have := lessN_pos h
      simp [h]
      cases k with
      | nil => simp at this
      | cons _ _ => simp
  | l, k :: j :: r => by
    rw [risesFrom, risesFrom_eq k (j :: r)]
    generalize hA : (j :: r).all mayK = A
    generalize hB : risesN (j :: r) = B
    have e1 : (k :: j :: r).all mayK = (mayK k && A) := by rw [← hA]; rfl
    have e2 : risesN (k :: j :: r) = (lessN k j && B) := by rw [← hB]; rfl
    rw [e1, e2]
    unfold follows mayK
    rw [List.head?_cons, List.head?_cons, Option.all_some, Option.all_some]
    cases h : lessN l k with
    | false => simp
    | true =>
      rw [decide_eq_true (lessN_pos h)]
      cases decide (k.length ≤ 40) <;> cases A <;> cases B <;> cases lessN k j <;> rfl
theorem risesFrom_nil (ks : List (List Nat)) : risesFrom [] ks = (ks.all mayK && risesN ks) := by
  rw [risesFrom_eq]
  cases ks with
  | nil => rfl
  | cons k r =>
    rw [List.head?_cons, Option.all_some, lessN_nil, List.all_cons, mayK]
    cases decide (1 ≤ k.length) <;> simp
theorem itsFrom_eq : ∀ (l : List Nat) (is : List NIt), itsFrom l is = (is.all (fun i => decide (i.v.length ≤ 120)) && risesFrom l (is.map (·.k)))
  | l, [] => rfl
  | l, i :: r => by
    rw [itsFrom, itsFrom_eq i.k r, List.map_cons, risesFrom, List.all_cons]
    cases follows l i.k <;> cases decide (i.v.length ≤ 120) <;> simp
theorem itsFrom_nil (is : List NIt) : itsFrom [] is = (is.all mayIt && risesN (is.map (·.k))) := by
  rw [itsFrom_eq, risesFrom_nil]
  have e : is.all mayIt = (is.all (fun i => decide (i.v.length ≤ 120)) && (is.map (·.k)).all mayK) := by
    induction is with
    | nil => rfl
    | cons i r ih =>
      rw [List.all_cons, ih, List.all_cons, List.map_cons, List.all_cons, mayIt]
      cases mayK i.k <;> cases decide (i.v.length ≤ 120) <;> simp
  rw [e, Bool.and_assoc]
end Go.By
namespace Go.Proofs.YtlagllhhahomlaaGreat.Sl.Nd
open Go Go.RowKit Go.By
set_option maxRecDepth 100000 in
theorem mayFollow_any (v u : Value) (l m : List Nat) (w : World) (hv : Bytes w v l) (hu : Bytes w u m) :
    Calls Tryz.prog 197 #[v, u] w fun e w' => e = .returned (.bool (follows l m)) ∧ w' = w := by
  have HC := Lib.hid (compare_any v u l m w hv hu)
  have hE : follows l m = (decide (m.length ≤ 40) && decide (cmpN l m < 0)) := by unfold follows; rw [cmpN_less hv.small hu.small]
  obtain ⟨q, cq, rfl, _⟩ := hu.any
  have HE := Lib.hid hE
  clear hv hu hE
  generalize cmpN l m = x at *
  by_cases h1 : (m.length : Int) ≤ 40
  · have E : Hid (follows l m = decide (x < 0)) := by unfold Hid; rw [HE.out, decide_eq_true (show m.length ≤ 40 by omega)]; rfl
    generalize m.length = L at *
    go_enter Tryz.func197, Tryz.ntmps197
    go_wp2_with fail
    refine HC.out.mono ?_
    rintro e w1 ⟨rfl, rfl⟩
    go_wp2
    go_ret
    exact ⟨by rw [E.out]; rfl, rfl⟩
  · have E : Hid (follows l m = false) := by unfold Hid; rw [HE.out, decide_eq_false (show ¬ m.length ≤ 40 by omega)]; rfl
    generalize m.length = L at *
    go_enter Tryz.func197, Tryz.ntmps197
    go_wp2
    go_ret
    exact ⟨by rw [E.out]; rfl, rfl⟩
def soMany (f n : Nat) : Bool := decide (f ≤ n ∧ n ≤ 8)
set_option maxRecDepth 100000 in
theorem soMany_any (n f : Nat) (w : World) :
    Calls Tryz.prog 178 #[.int .i64 n, .int .i64 f] w fun e w' => e = .returned (.bool (soMany f n)) ∧ w' = w := by
  by_cases h1 : (f : Int) ≤ n
  · have E : Hid (soMany f n = decide ((n : Int) ≤ 8)) := by unfold Hid soMany; exact decide_eq_decide.2 (by omega)
    go_enter Tryz.func178, Tryz.ntmps178
    go_wp2
    go_ret
    exact ⟨by rw [E.out]; rfl, rfl⟩
  · have E : Hid (soMany f n = false) := by unfold Hid soMany; exact decide_eq_false (by omega)
    go_enter Tryz.func178, Tryz.ntmps178
    go_wp2
    go_ret
    exact ⟨by rw [E.out]; rfl, rfl⟩
end Go.Proofs.YtlagllhhahomlaaGreat.Sl.Nd
/- Nodes in a program: rows that may be. -/
namespace Go.Proofs.YtlagllhhahomlaaGreat.Sl.Nd
open Go Go.RowKit Go.By
def MayItsRel (w : World) (its : List NIt) (last i : Value) (wr : World) : Prop :=
  ∃ (k : Nat) (L : List Nat), k ≤ its.length ∧ i = .int .i64 k ∧ Bytes w last L ∧ itsFrom [] its = itsFrom L (its.drop k) ∧ Below w.heap.size w wr
theorem itsFrom_at {L : List Nat} {its : List NIt} {k : Nat} (h : k < its.length) : itsFrom L (its.drop k) = ((follows L its[k].k && decide (its[k].v.length ≤ 120)) && itsFrom its[k].k (its.drop (k + 1))) := by
  rw [List.drop_eq_getElem_cons h, itsFrom]
set_option maxRecDepth 100000 in
theorem mayItems_any (p : Option Addr) (cap : Nat) (its : List NIt) (w : World) (h : RowAt KItem w p cap its) :
    Calls Tryz.prog 179 #[.slice p its.length cap] w fun e w' => e = .returned (.bool (itsFrom [] its)) ∧ Below w.heap.size w w' := by
  have h0 : MayItsRel w its (.slice none 0 0) (.int .i64 (0 : Nat)) w := ⟨0, [], by omega, rfl, Bytes.nil w, rfl, Below.refl _ _⟩
  have H0 := Lib.hid h0; have HR := Lib.hid h
  obtain ⟨N, hN⟩ : ∃ N, N = its.length := ⟨_, rfl⟩
  have hN9 : (N : Int) ≤ 9223372036854775807 := by have := h.le; have := h.most; unfold maxLen at this; omega
  have HN := Lib.hid hN
  rw [← hN]
  clear h0 h hN
  go_enter Tryz.func179, Tryz.ntmps179
  go_wp2
  go_loopw [3, 8] (fun x i W => MayItsRel w its x i W) (fun _ i _ => N - (intOf i).toNat)
  case atStart => exact H0.out
  case round =>
    clear H0
    obtain ⟨k, L, hk, rfl, hL, hE, hB⟩ := hrel
    by_cases hlt : k < N
    · have hkl : k < its.length := by rw [← HN.out]; exact hlt
      obtain ⟨lb, lo, rfl, hat⟩ := HR.out.some (by omega)
      obtain ⟨cs, hc, a, b, rfl, ha, hb⟩ := hat k hkl
      obtain ⟨c0, c1⟩ := (hc.below hB).two
      simp only [KItem] at c0 c1
      have hE2 := hE
      rw [itsFrom_at hkl] at hE2
      generalize hit : its[k] = it at *
      obtain ⟨qa, ca, rfl, _⟩ := ha.any
      obtain ⟨qb, cb, rfl, _⟩ := hb.any
      have HA := Lib.hid ha; have HLL := Lib.hid hL; have HB := Lib.hid hB; have HE := Lib.hid hE2; have HK := Lib.hid hlt
      have HF := Lib.hid (fun (W : World) (hW : Below w.heap.size w W) => mayFollow_any u3 (.slice qa it.k.length ca) L it.k W (hL.below hW) (ha.below hW))
      clear ha hL hB hE hE2 hc hat hb hk hkl hit
      go_wp2_with fail
      refine (HF.out _ (HB.out.alloc HB.out.size _)).mono ?_
      rintro e w1 ⟨rfl, rfl⟩
      cases hf : follows L it.k with
      | false =>
        have E : Hid (itsFrom [] its = false) := by unfold Hid; rw [HE.out, hf]; rfl
        go_wp2
        go_ret
        exact ⟨by rw [E.out]; rfl, HB.out.alloc HB.out.size _⟩
      | true =>
        by_cases hv : (it.v.length : Int) ≤ 120
        · have E : Hid (itsFrom [] its = itsFrom it.k (its.drop (k + 1))) := by unfold Hid; rw [HE.out, hf, decide_eq_true (show it.v.length ≤ 120 by omega)]; rfl
          have HNX : Hid (MayItsRel w its (.slice qa it.k.length ca) (.int .i64 (k + 1 : Nat)) (wr.alloc (.cells #[.slice qa it.k.length ca, .slice qb it.v.length cb] 49))) :=
            ⟨k + 1, it.k, by have := HN.out; have := HK.out; omega, rfl, HA.out, E.out, HB.out.alloc HB.out.size _⟩
          generalize it.k.length = LK at *
          generalize it.v.length = LV at *
          go_wp2
          go_roundw
          case rel => exact HNX.out
          case measure => simp [intOf]; have := HK.out; omega
        · have E : Hid (itsFrom [] its = false) := by unfold Hid; rw [HE.out, hf, decide_eq_false (show ¬ it.v.length ≤ 120 by omega)]; rfl
          generalize it.k.length = LK at *
          generalize it.v.length = LV at *
          go_wp2
          go_ret
          exact ⟨by rw [E.out]; rfl, HB.out.alloc HB.out.size _⟩
    · have E : Hid (itsFrom [] its = true) := by unfold Hid; rw [hE, List.drop_of_length_le (by rw [← HN.out]; omega)]; rfl
      have HB := Lib.hid hB
      clear hE hL hB
      obtain rfl : k = N := by have := HN.out; omega
      go_wp2
      go_ret
      exact ⟨by rw [E.out]; rfl, HB.out⟩
def MayKsRel (w : World) (ks : List (List Nat)) (last i : Value) (wr : World) : Prop :=
  ∃ (k : Nat) (L : List Nat), k ≤ ks.length ∧ i = .int .i64 k ∧ Bytes w last L ∧ risesFrom [] ks = risesFrom L (ks.drop k) ∧ Below w.heap.size w wr
theorem risesFrom_at {L : List Nat} {ks : List (List Nat)} {k : Nat} (h : k < ks.length) : risesFrom L (ks.drop k) = (follows L ks[k] && risesFrom ks[k] (ks.drop (k + 1))) := by
  rw [List.drop_eq_getElem_cons h, risesFrom]
set_option maxRecDepth 100000 in
theorem mayKeys_any (p : Option Addr) (cap : Nat) (ks : List (List Nat)) (w : World) (h : RowAt KBytes w p cap ks) :
    Calls Tryz.prog 180 #[.slice p ks.length cap] w fun e w' => e = .returned (.bool (risesFrom [] ks)) ∧ Below w.heap.size w w' := by
  have h0 : MayKsRel w ks (.slice none 0 0) (.int .i64 (0 : Nat)) w := ⟨0, [], by omega, rfl, Bytes.nil w, rfl, Below.refl _ _⟩
  have H0 := Lib.hid h0; have HR := Lib.hid h
  obtain ⟨N, hN⟩ : ∃ N, N = ks.length := ⟨_, rfl⟩
  have hN9 : (N : Int) ≤ 9223372036854775807 := by have := h.le; have := h.most; unfold maxLen at this; omega
  have HN := Lib.hid hN
  rw [← hN]
  clear h0 h hN
  go_enter Tryz.func180, Tryz.ntmps180
  go_wp2
  go_loopw [3, 8] (fun x i W => MayKsRel w ks x i W) (fun _ i _ => N - (intOf i).toNat)
  case atStart => exact H0.out
  case round =>
    clear H0
    obtain ⟨k, L, hk, rfl, hL, hE, hB⟩ := hrel
    by_cases hlt : k < N
    · have hkl : k < ks.length := by rw [← HN.out]; exact hlt
      obtain ⟨lb, lo, rfl, hat⟩ := HR.out.some (by omega)
      obtain ⟨cs, hc, a, rfl, ha⟩ := hat k hkl
      have c0 := (hc.below hB).one
      simp only [KBytes, Nat.mul_one] at c0
      have hE2 := hE
      rw [risesFrom_at hkl] at hE2
      generalize hit : ks[k] = it at *
      obtain ⟨qa, ca, rfl, _⟩ := ha.any
      have HA := Lib.hid ha; have HLL := Lib.hid hL; have HB := Lib.hid hB; have HE := Lib.hid hE2; have HK := Lib.hid hlt
      have HF := Lib.hid (fun (W : World) (hW : Below w.heap.size w W) => mayFollow_any u3 (.slice qa it.length ca) L it W (hL.below hW) (ha.below hW))
      clear ha hL hB hE hE2 hc hat hk hkl hit
      go_wp2_with fail
      refine (HF.out _ HB.out).mono ?_
      rintro e w1 ⟨rfl, rfl⟩
      cases hf : follows L it with
      | false =>
        have E : Hid (risesFrom [] ks = false) := by unfold Hid; rw [HE.out, hf]; rfl
        go_wp2
        go_ret
        exact ⟨by rw [E.out]; rfl, HB.out⟩
      | true =>
        have E : Hid (risesFrom [] ks = risesFrom it (ks.drop (k + 1))) := by unfold Hid; rw [HE.out, hf]; rfl
        have HNX : Hid (MayKsRel w ks (.slice qa it.length ca) (.int .i64 (k + 1 : Nat)) w1) :=
          ⟨k + 1, it, by have := HN.out; have := HK.out; omega, rfl, HA.out, E.out, HB.out⟩
        generalize it.length = LK at *
        go_wp2
        go_roundw
        case rel => exact HNX.out
        case measure => simp [intOf]; have := HK.out; omega
    · have E : Hid (risesFrom [] ks = true) := by unfold Hid; rw [hE, List.drop_of_length_le (by rw [← HN.out]; omega)]; rfl
      have HB := Lib.hid hB
      clear hE hL hB
      obtain rfl : k = N := by have := HN.out; omega
      go_wp2
      go_ret
      exact ⟨by rw [E.out]; rfl, HB.out⟩
def MayKdsRel (w : World) (kids : List NKd) (i : Value) (wr : World) : Prop :=
  ∃ (k : Nat), k ≤ kids.length ∧ i = .int .i64 k ∧ kids.all mayKd = (kids.drop k).all mayKd ∧ Below w.heap.size w wr
set_option maxRecDepth 100000 in
theorem mayKids_any (p : Option Addr) (cap : Nat) (kids : List NKd) (w : World) (h : RowAt KRef w p cap kids) :
    Calls Tryz.prog 181 #[.slice p kids.length cap] w fun e w' => e = .returned (.bool (kids.all mayKd)) ∧ Below w.heap.size w w' := by
  have h0 : MayKdsRel w kids (.int .i64 (0 : Nat)) w := ⟨0, by omega, rfl, rfl, Below.refl _ _⟩
  have H0 := Lib.hid h0; have HR := Lib.hid h
  obtain ⟨N, hN⟩ : ∃ N, N = kids.length := ⟨_, rfl⟩
  have hN9 : (N : Int) ≤ 9223372036854775807 := by have := h.le; have := h.most; unfold maxLen at this; omega
  have HN := Lib.hid hN
  rw [← hN]
  clear h0 h hN
  go_enter Tryz.func181, Tryz.ntmps181
  go_wp2
  go_loopw [7] (fun i W => MayKdsRel w kids i W) (fun i _ => N - (intOf i).toNat)
  case atStart => exact H0.out
  case round =>
    clear H0
    obtain ⟨k, hk, rfl, hE, hB⟩ := hrel
    by_cases hlt : k < N
    · have hkl : k < kids.length := by rw [← HN.out]; exact hlt
      obtain ⟨lb, lo, rfl, hat⟩ := HR.out.some (by omega)
      obtain ⟨cs, hc, rfl, hoff, hct⟩ := hat k hkl
      obtain ⟨c0, c1⟩ := (hc.below hB).two
      simp only [KRef] at c0 c1
      have hE2 := hE
      rw [List.drop_eq_getElem_cons hkl, List.all_cons] at hE2
      generalize hit : kids[k] = it at *
      obtain ⟨off, ct⟩ := it
      simp only at c0 c1 hoff hct
      have HB := Lib.hid hB; have HE := Lib.hid hE2; have HK := Lib.hid hlt
      have HB1 : Hid (Below w.heap.size w (wr.alloc (.cells #[.int .i64 off, .int .u64 (ct : Nat)] 25))) := HB.out.alloc HB.out.size _
      clear hB hE hE2 hc hat hk hkl hit
      by_cases h1 : 1 ≤ off
      · by_cases h2 : (1 : Int) ≤ ct
        · by_cases h3 : (ct : Int) ≤ 1099511627776
          · have E : Hid (kids.all mayKd = (kids.drop (k + 1)).all mayKd) := by unfold Hid; rw [HE.out, mayKd, decide_eq_true h1, decide_eq_true (show 1 ≤ ct by omega), decide_eq_true (show ct ≤ 1099511627776 by omega)]; rfl
            have HNX : Hid (MayKdsRel w kids (.int .i64 (k + 1 : Nat)) (wr.alloc (.cells #[.int .i64 off, .int .u64 (ct : Nat)] 25))) :=
              ⟨k + 1, by have := HN.out; have := HK.out; omega, rfl, E.out, HB1.out⟩
            go_wp2
            go_roundw
            case rel => exact HNX.out
            case measure => simp [intOf]; have := HK.out; omega
          · have E : Hid (kids.all mayKd = false) := by unfold Hid; rw [HE.out, mayKd, decide_eq_false (show ¬ ct ≤ 1099511627776 by omega)]; simp
            go_wp2
            go_ret
            exact ⟨by rw [E.out]; rfl, HB1.out⟩
        · have E : Hid (kids.all mayKd = false) := by unfold Hid; rw [HE.out, mayKd, decide_eq_false (show ¬ 1 ≤ ct by omega)]; simp
          go_wp2
          go_ret
          exact ⟨by rw [E.out]; rfl, HB1.out⟩
      · have E : Hid (kids.all mayKd = false) := by unfold Hid; rw [HE.out, mayKd, decide_eq_false h1]; rfl
        go_wp2
        go_ret
        exact ⟨by rw [E.out]; rfl, HB1.out⟩
    · have E : Hid (kids.all mayKd = true) := by unfold Hid; rw [hE, List.drop_of_length_le (by rw [← HN.out]; omega)]; rfl
      have HB := Lib.hid hB
      clear hE hB
      obtain rfl : k = N := by have := HN.out; omega
      go_wp2
      go_ret
      exact ⟨by rw [E.out]; rfl, HB.out⟩
end Go.Proofs.YtlagllhhahomlaaGreat.Sl.Nd
/- Nodes in a program: which may be. -/
namespace Go.By
open Go Go.RowKit
def leafOk (n : Nd) : Bool := decide (n.ks.length = 0) && (decide (n.kids.length = 0) && (decide (1 ≤ n.its.length ∧ n.its.length ≤ 8) && itsFrom [] n.its))
def innerOk (n : Nd) : Bool := decide (n.its.length = 0) && (decide (n.ks.length = n.kids.length) && (decide (2 ≤ n.kids.length ∧ n.kids.length ≤ 8) && (risesFrom [] n.ks && n.kids.all mayKd)))
theorem leafOk_eq (n : Nd) : mayLf n = leafOk n := by
  unfold mayLf leafOk
  rw [itsFrom_nil]
  have e1 : decide (n.ks = []) = decide (n.ks.length = 0) := decide_eq_decide.2 (by simp)
  have e2 : decide (n.kids = []) = decide (n.kids.length = 0) := decide_eq_decide.2 (by simp)
  rw [e1, e2]
  cases decide (n.ks.length = 0) <;> cases decide (n.kids.length = 0) <;> cases decide (1 ≤ n.its.length ∧ n.its.length ≤ 8) <;> cases n.its.all mayIt <;> cases risesN (n.its.map (·.k)) <;> rfl
theorem innerOk_eq (n : Nd) : mayIn n = innerOk n := by
  unfold mayIn innerOk
  rw [risesFrom_nil]
  have e1 : decide (n.its = []) = decide (n.its.length = 0) := decide_eq_decide.2 (by simp)
  rw [e1]
  cases decide (n.its.length = 0) <;> cases decide (n.ks.length = n.kids.length) <;> cases decide (2 ≤ n.kids.length ∧ n.kids.length ≤ 8) <;> cases n.ks.all mayK <;> cases risesN n.ks <;> cases n.kids.all mayKd <;> rfl
end Go.By
namespace Go.Proofs.YtlagllhhahomlaaGreat.Sl.Nd
open Go Go.RowKit Go.By
set_option maxRecDepth 100000 in
theorem mayLeaf_any {w : World} {v : Value} {n : Nd} {pi pk pd : Option Addr} {ci ck cd : Nat} (h : IsNd w v n pi ci pk ck pd cd) :
    Calls Tryz.prog 156 #[v] w fun e w' => e = .returned (.bool (mayLf n)) ∧ Below w.heap.size w w' := by
  have hv := h.val
  subst hv
  have HB := Lib.hid ((Below.refl w.heap.size w).alloc (Nat.le_refl _) (.cells #[.bool n.leaf, .slice pi n.its.length ci, .slice pk n.ks.length ck, .slice pd n.kids.length cd] 38))
  have HC := Lib.hid (mayItems_any pi ci n.its _ (h.its.below HB.out))
  have HS := Lib.hid (fun W => soMany_any n.its.length 1 W)
  have HE : Hid (mayLf n = leafOk n) := leafOk_eq n
  unfold leafOk at HE
  have HN : Hid (soMany 1 n.its.length = decide (1 ≤ n.its.length ∧ n.its.length ≤ 8)) := rfl
  clear h
  cases h1 : ((n.ks.length : Int) == 0) with
  | false =>
    have E : Hid (mayLf n = false) := by unfold Hid; rw [HE.out, decide_eq_false (by rw [beq_eq_false_iff_ne] at h1; omega)]; rfl
    go_enter Tryz.func156, Tryz.ntmps156
    go_wp2
    go_ret
    exact ⟨by rw [E.out]; rfl, HB.out⟩
  | true =>
    cases h2 : ((n.kids.length : Int) == 0) with
    | false =>
      have E : Hid (mayLf n = false) := by unfold Hid; rw [HE.out, decide_eq_false (show ¬ n.kids.length = 0 by rw [beq_eq_false_iff_ne] at h2; omega)]; simp
      go_enter Tryz.func156, Tryz.ntmps156
      go_wp2
      go_ret
      exact ⟨by rw [E.out]; rfl, HB.out⟩
    | true =>
      go_enter Tryz.func156, Tryz.ntmps156
      go_wp2_with fail
      refine (HS.out _).mono ?_
      rintro e w1 ⟨rfl, rfl⟩
      cases h3 : soMany 1 n.its.length with
      | false =>
        have E : Hid (mayLf n = false) := by unfold Hid; rw [HE.out, ← HN.out, h3]; simp
        go_wp2
        go_ret
        exact ⟨by rw [E.out]; rfl, HB.out⟩
      | true =>
        have E : Hid (mayLf n = itsFrom [] n.its) := by
          unfold Hid
          rw [HE.out, ← HN.out, h3, decide_eq_true (show n.ks.length = 0 by rw [beq_iff_eq] at h1; omega), decide_eq_true (show n.kids.length = 0 by rw [beq_iff_eq] at h2; omega)]
          rfl
        go_wp2_with fail
        refine HC.out.mono ?_
        rintro e w2 ⟨rfl, hb2⟩
        have HB2 : Hid (Below w.heap.size w w2) := HB.out.trans (hb2.mono HB.out.size)
        clear hb2
        go_wp2
        go_ret
        exact ⟨by rw [E.out]; rfl, HB2.out⟩
set_option maxRecDepth 100000 in
theorem mayInner_any {w : World} {v : Value} {n : Nd} {pi pk pd : Option Addr} {ci ck cd : Nat} (h : IsNd w v n pi ci pk ck pd cd) :
    Calls Tryz.prog 157 #[v] w fun e w' => e = .returned (.bool (mayIn n)) ∧ Below w.heap.size w w' := by
  have hv := h.val
  subst hv
  obtain ⟨W, hW⟩ : ∃ W, W = w.alloc (.cells #[.bool n.leaf, .slice pi n.its.length ci, .slice pk n.ks.length ck, .slice pd n.kids.length cd] 38) := ⟨_, rfl⟩
  have hb : Below w.heap.size w W := by rw [hW]; exact (Below.refl w.heap.size w).alloc (Nat.le_refl _) _
  have hcW : W.heap[w.heap.size]? = some (.cells #[.bool n.leaf, .slice pi n.its.length ci, .slice pk n.ks.length ck, .slice pd n.kids.length cd] 38 (0, 0)) := by rw [hW]; exact heap_alloc_new w _
  have hsz : w.heap.size < W.heap.size := by rw [hW]; simp
  have HW := Lib.hid hW; have HB := Lib.hid hb; have HCW := Lib.hid hcW; have HSZ := Lib.hid hsz
  have c0 := cells_of hcW 0; have c1 := cells_of hcW 1; have c2 := cells_of hcW 2; have c3 := cells_of hcW 3
  simp only [List.getElem?_toArray, List.getElem?_cons_zero, List.getElem?_cons_succ] at c0 c1 c2 c3
  have HC := Lib.hid (mayKeys_any pk ck n.ks _ (h.ks.below hb))
  have HD := Lib.hid (fun W' (hb2 : Below W.heap.size W W') => mayKids_any pd cd n.kids W' ((h.kids.below hb).below hb2))
  have HS := Lib.hid (fun W => soMany_any n.kids.length 2 W)
  have HE : Hid (mayIn n = innerOk n) := innerOk_eq n
  unfold innerOk at HE
  have HN : Hid (soMany 2 n.kids.length = decide (2 ≤ n.kids.length ∧ n.kids.length ≤ 8)) := rfl
  clear h hW hb hcW hsz
  cases h1 : ((n.its.length : Int) == 0) with
  | false =>
    have E : Hid (mayIn n = false) := by unfold Hid; rw [HE.out, decide_eq_false (by rw [beq_eq_false_iff_ne] at h1; omega)]; rfl
    go_enter Tryz.func157, Tryz.ntmps157
    go_wp2
    rw [← HW.out]
    go_ret
    exact ⟨by rw [E.out]; rfl, HB.out⟩
  | true =>
    cases h2 : ((n.ks.length : Int) == (n.kids.length : Int)) with
    | false =>
      have E : Hid (mayIn n = false) := by unfold Hid; rw [HE.out, decide_eq_false (show ¬ n.ks.length = n.kids.length by rw [beq_eq_false_iff_ne] at h2; omega)]; simp
      go_enter Tryz.func157, Tryz.ntmps157
      go_wp2
      rw [← HW.out]
      go_ret
      exact ⟨by rw [E.out]; rfl, HB.out⟩
    | true =>
      go_enter Tryz.func157, Tryz.ntmps157
      go_wp2_with fail
      rw [← HW.out]
      refine (HS.out _).mono ?_
      rintro e w1 ⟨rfl, rfl⟩
      cases h3 : soMany 2 n.kids.length with
      | false =>
        have E : Hid (mayIn n = false) := by unfold Hid; rw [HE.out, ← HN.out, h3]; simp
        go_wp2
        go_ret
        exact ⟨by rw [E.out]; rfl, HB.out⟩
      | true =>
        have E : Hid (mayIn n = (risesFrom [] n.ks && n.kids.all mayKd)) := by
          unfold Hid
          rw [HE.out, ← HN.out, h3, decide_eq_true (show n.its.length = 0 by rw [beq_iff_eq] at h1; omega), decide_eq_true (show n.ks.length = n.kids.length by rw [beq_iff_eq] at h2; omega)]
          rfl
        go_wp2_with fail
        refine HC.out.mono ?_
        rintro e w2 ⟨rfl, hb2⟩
        have HB2 : Hid (Below w.heap.size w w2) := HB.out.trans (hb2.mono HB.out.size)
        cases h4 : risesFrom [] n.ks with
        | false =>
          have E2 : Hid (mayIn n = false) := by unfold Hid; rw [E.out, h4]; rfl
          clear hb2
          go_wp2
          go_ret
          exact ⟨by rw [E2.out]; rfl, HB2.out⟩
        | true =>
          have E2 : Hid (mayIn n = n.kids.all mayKd) := by unfold Hid; rw [E.out, h4]; rfl
          have hc2 := (hb2.block _ HSZ.out).trans HCW.out
          clear c0 c1 c2 c3
          have c3 := cells_of hc2 3
          simp only [List.getElem?_toArray, List.getElem?_cons_zero, List.getElem?_cons_succ] at c3
          have HD2 := Lib.hid (HD.out _ hb2)
          clear hb2 hc2
          go_wp2_with fail
          refine HD2.out.mono ?_
          rintro e w3 ⟨rfl, hb3⟩
          have HB3 : Hid (Below w.heap.size w w3) := HB2.out.trans (hb3.mono HB2.out.size)
          clear hb3
          go_wp2
          go_ret
          exact ⟨by rw [E2.out]; rfl, HB3.out⟩
set_option maxRecDepth 100000 in
theorem may_any {w : World} {v : Value} {n : Nd} {pi pk pd : Option Addr} {ci ck cd : Nat} (h : IsNd w v n pi ci pk ck pd cd) :
    Calls Tryz.prog 123 #[v] w fun e w' => e = .returned (.bool (mayNd n)) ∧ Below w.heap.size w w' := by
  have hv := h.val
  have hb := (Below.refl w.heap.size w).alloc (Nat.le_refl _) (.cells #[.bool n.leaf, .slice pi n.its.length ci, .slice pk n.ks.length ck, .slice pd n.kids.length cd] 38)
  have HL := Lib.hid (mayLeaf_any (h.below hb))
  have HI := Lib.hid (mayInner_any (h.below hb))
  have HB := Lib.hid hb
  subst hv
  clear hb h
  have HE : Hid (mayNd n = if n.leaf = true then mayLf n else mayIn n) := rfl
  generalize n.leaf = lf at *
  cases lf with
  | true =>
    go_enter Tryz.func123, Tryz.ntmps123
    go_wp2_with fail
    refine HL.out.mono ?_
    rintro e w1 ⟨rfl, hb1⟩
    have HB1 : Hid (Below w.heap.size w w1) := HB.out.trans (hb1.mono HB.out.size)
    clear hb1
    go_wp2
    go_ret
    exact ⟨by rw [HE.out]; rfl, HB1.out⟩
  | false =>
    go_enter Tryz.func123, Tryz.ntmps123
    go_wp2_with fail
    refine HI.out.mono ?_
    rintro e w1 ⟨rfl, hb1⟩
    have HB1 : Hid (Below w.heap.size w w1) := HB.out.trans (hb1.mono HB.out.size)
    clear hb1
    go_wp2
    go_ret
    exact ⟨by rw [HE.out]; rfl, HB1.out⟩
end Go.Proofs.YtlagllhhahomlaaGreat.Sl.Nd
/- Nodes in a program: which are the same. -/
namespace Go.Proofs.YtlagllhhahomlaaGreat.Sl.Nd
open Go Go.RowKit Go.By
theorem nit_eq (i j : NIt) : decide (i = j) = (decide (i.k = j.k) && decide (i.v = j.v)) := by
  cases i; cases j
  simp
set_option maxRecDepth 100000 in
theorem sameItem_any (a b c d : Value) (i j : NIt) (w : World) (ha : Bytes w a i.k) (hb : Bytes w b i.v) (hc : Bytes w c j.k) (hd : Bytes w d j.v) :
    Calls Tryz.prog 151 #[.agg #[a, b], .agg #[c, d]] w fun e w' => e = .returned (.bool (decide (i = j))) ∧ Below w.heap.size w w' := by
  have hbo := fun o o' => ((Below.refl w.heap.size w).alloc (Nat.le_refl _) o).alloc (by simp) o'
  have HB := Lib.hid hbo
  have H1 := Lib.hid (fun o o' => equal_any a c i.k j.k _ (ha.below (hbo o o')) (hc.below (hbo o o')))
  have H2 := Lib.hid (fun o o' => equal_any b d i.v j.v _ (hb.below (hbo o o')) (hd.below (hbo o o')))
  have HE := Lib.hid (nit_eq i j)
  clear ha hb hc hd hbo
  generalize decide (i.k = j.k) = x at *
  generalize decide (i.v = j.v) = y at *
  go_enter Tryz.func151, Tryz.ntmps151
  go_wp2_with fail
  refine (H1.out _ _).mono ?_
  rintro e w1 ⟨rfl, rfl⟩
  cases x with
  | false =>
    go_wp2
    go_ret
    exact ⟨by rw [HE.out]; rfl, HB.out _ _⟩
  | true =>
    go_wp2_with fail
    refine (H2.out _ _).mono ?_
    rintro e w1 ⟨rfl, rfl⟩
    go_wp2
    go_ret
    exact ⟨by rw [HE.out]; rfl, HB.out _ _⟩
def AlikeRel {α : Type} (w : World) (xs ys : List α) (i : Value) (wr : World) : Prop :=
  ∃ (k : Nat), k ≤ xs.length ∧ i = .int .i64 k ∧ (∀ j, j < k → xs[j]? = ys[j]?) ∧ Below w.heap.size w wr
theorem alike_no {α : Type} [DecidableEq α] {xs ys : List α} {k : Nat} (hk : k < xs.length) (hk' : k < ys.length) (h : decide (xs[k] = ys[k]) = false) : decide (xs = ys) = false := by
  rw [decide_eq_false_iff_not] at h ⊢
  intro e
  subst e
  exact h rfl
theorem alike_next {α : Type} [DecidableEq α] {xs ys : List α} {k : Nat} (hk : k < xs.length) (hk' : k < ys.length) (h : decide (xs[k] = ys[k]) = true) (ha : ∀ j, j < k → xs[j]? = ys[j]?) : ∀ j, j < k + 1 → xs[j]? = ys[j]? := fun j hj => by
  by_cases he : j < k
  · exact ha j he
  · obtain rfl : j = k := by omega
    rw [List.getElem?_eq_getElem hk, List.getElem?_eq_getElem hk', of_decide_eq_true h]
theorem alike_yes {α : Type} [DecidableEq α] {xs ys : List α} (hl : xs.length = ys.length) (ha : ∀ j, j < xs.length → xs[j]? = ys[j]?) : decide (xs = ys) = true := by
  rw [decide_eq_true_iff]
  apply List.ext_getElem?
  intro j
  by_cases h : j < xs.length
  · exact ha j h
  · rw [List.getElem?_eq_none (by omega), List.getElem?_eq_none (by omega)]
theorem alike_len {α : Type} [DecidableEq α] {xs ys : List α} (hl : xs.length ≠ ys.length) : decide (xs = ys) = false := decide_eq_false (fun e => hl (by rw [e]))
set_option maxRecDepth 100000 in
theorem eqItems_any (p q : Option Addr) (c d : Nat) (xs ys : List NIt) (w : World) (hx : RowAt KItem w p c xs) (hy : RowAt KItem w q d ys) :
    Calls Tryz.prog 150 #[.slice p xs.length c, .slice q ys.length d, .func (.func 151) #[] #[]] w fun e w' => e = .returned (.bool (decide (xs = ys))) ∧ Below w.heap.size w w' := by
  have h0 : AlikeRel w xs ys (.int .i64 (0 : Nat)) w := ⟨0, by omega, rfl, fun j hj => absurd hj (by omega), Below.refl _ _⟩
  have H0 := Lib.hid h0; have HX := Lib.hid hx; have HY := Lib.hid hy
  obtain ⟨N, hN⟩ : ∃ N, N = xs.length := ⟨_, rfl⟩
  obtain ⟨M, hM⟩ : ∃ M, M = ys.length := ⟨_, rfl⟩
  have hN9 : (N : Int) ≤ 9223372036854775807 := by have := hx.le; have := hx.most; unfold maxLen at this; omega
  have HN := Lib.hid hN; have HM := Lib.hid hM
  rw [← hN, ← hM]
  clear h0 hx hy hN hM
  by_cases hne : N = M
  · have HNM := Lib.hid hne
    have hnm : ((N : Int) != (M : Int)) = false := by rw [hne]; simp
    clear hne
    go_enter Tryz.func150, Tryz.ntmps150
    go_wp2
    go_loopw [17] (fun i W => AlikeRel w xs ys i W) (fun i _ => N - (intOf i).toNat)
    case atStart => exact H0.out
    case round =>
      clear H0
      obtain ⟨k, hk, rfl, hE, hB⟩ := hrel
      by_cases hlt : k < N
      · have hkl : k < xs.length := by rw [← HN.out]; exact hlt
        have hkm : k < ys.length := by rw [← HM.out, ← HNM.out]; exact hlt
        have hkM : (k : Int) < M := by have := HNM.out; omega
        obtain ⟨lb, lo, rfl, hat⟩ := HX.out.some (by omega)
        obtain ⟨cs, hc, a, b, rfl, ha, hb⟩ := hat k hkl
        obtain ⟨lb', lo', rfl, hat'⟩ := HY.out.some (by omega)
        obtain ⟨cs', hc', a', b', rfl, ha', hb'⟩ := hat' k hkm
        obtain ⟨c0, c1⟩ := (hc.below hB).two
        have hBa : Below w.heap.size w (wr.alloc (.cells #[a, b] 49)) := hB.alloc hB.size _
        obtain ⟨d0, d1⟩ := (hc'.below hBa).two
        simp only [KItem] at c0 c1 d0 d1
        obtain ⟨qa, ca, rfl, _⟩ := ha.any
        obtain ⟨qb, cb, rfl, _⟩ := hb.any
        obtain ⟨qa', ca', rfl, _⟩ := ha'.any
        obtain ⟨qb', cb', rfl, _⟩ := hb'.any
        have HNO := Lib.hid (alike_no hkl hkm)
        have HYE := Lib.hid (fun h => alike_next hkl hkm h hE)
        generalize xs[k] = x at *
        generalize ys[k] = y at *
        have HB := Lib.hid hB; have HK := Lib.hid hlt
        have HF := Lib.hid (fun (W : World) (hW : Below w.heap.size w W) => sameItem_any _ _ _ _ x y W (ha.below hW) (hb.below hW) (ha'.below hW) (hb'.below hW))
        have HBB : Hid (∀ o o', Below w.heap.size w ((wr.alloc o).alloc o')) := fun o o' => (HB.out.alloc HB.out.size o).alloc (by have := HB.out.size; simp; omega) o'
        clear ha hb ha' hb' hE hB hc hat hc' hat' hk hkl hkm hBa
        generalize x.k.length = l1 at *
        generalize x.v.length = l2 at *
        generalize y.k.length = l3 at *
        generalize y.v.length = l4 at *
        go_wp2_with fail
        refine (HF.out _ (HBB.out _ _)).mono ?_
        rintro e w1 ⟨rfl, hb1⟩
        have HB1 : Hid (Below w.heap.size w w1) := (HBB.out _ _).trans (hb1.mono (HBB.out _ _).size)
        clear hb1
        cases he : decide (x = y) with
        | false =>
          have E : Hid (decide (xs = ys) = false) := HNO.out he
          go_wp2
          go_ret
          exact ⟨by rw [E.out]; rfl, HB1.out⟩
        | true =>
          have HNX : Hid (AlikeRel w xs ys (.int .i64 (k + 1 : Nat)) w1) := ⟨k + 1, by have := HN.out; have := HK.out; omega, rfl, HYE.out he, HB1.out⟩
          go_wp2
          go_roundw
          case rel => exact HNX.out
          case measure => simp [intOf]; have := HK.out; omega
      · obtain rfl : k = N := by have := HN.out; omega
        have E : Hid (decide (xs = ys) = true) := alike_yes (by rw [← HN.out, ← HM.out]; exact HNM.out) (by rw [← HN.out]; exact hE)
        have HB := Lib.hid hB
        clear hE hB
        go_wp2
        go_ret
        exact ⟨by rw [E.out]; rfl, HB.out⟩
  · have E : Hid (decide (xs = ys) = false) := alike_len (by rw [← HN.out, ← HM.out]; exact hne)
    have hnm : ((N : Int) != (M : Int)) = true := by simp; omega
    clear hne
    go_enter Tryz.func150, Tryz.ntmps150
    go_wp2
    go_ret
    exact ⟨by rw [E.out]; rfl, Below.refl _ _⟩
end Go.Proofs.YtlagllhhahomlaaGreat.Sl.Nd
/- Nodes in a program: which are the same, on. -/
namespace Go.Proofs.YtlagllhhahomlaaGreat.Sl.Nd
open Go Go.RowKit Go.By
set_option maxRecDepth 100000 in
theorem eqKeys_any (p q : Option Addr) (c d : Nat) (xs ys : List (List Nat)) (w : World) (hx : RowAt KBytes w p c xs) (hy : RowAt KBytes w q d ys) :
    Calls Tryz.prog 152 #[.slice p xs.length c, .slice q ys.length d, .func (.func 134) #[] #[]] w fun e w' => e = .returned (.bool (decide (xs = ys))) ∧ Below w.heap.size w w' := by
  have h0 : AlikeRel w xs ys (.int .i64 (0 : Nat)) w := ⟨0, by omega, rfl, fun j hj => absurd hj (by omega), Below.refl _ _⟩
  have H0 := Lib.hid h0; have HX := Lib.hid hx; have HY := Lib.hid hy
  obtain ⟨N, hN⟩ : ∃ N, N = xs.length := ⟨_, rfl⟩
  obtain ⟨M, hM⟩ : ∃ M, M = ys.length := ⟨_, rfl⟩
  have hN9 : (N : Int) ≤ 9223372036854775807 := by have := hx.le; have := hx.most; unfold maxLen at this; omega
  have HN := Lib.hid hN; have HM := Lib.hid hM
  rw [← hN, ← hM]
  clear h0 hx hy hN hM
  by_cases hne : N = M
  · have HNM := Lib.hid hne
    have hnm : ((N : Int) != (M : Int)) = false := by rw [hne]; simp
    clear hne
    go_enter Tryz.func152, Tryz.ntmps152
    go_wp2
    go_loopw [17] (fun i W => AlikeRel w xs ys i W) (fun i _ => N - (intOf i).toNat)
    case atStart => exact H0.out
    case round =>
      clear H0
      obtain ⟨k, hk, rfl, hE, hB⟩ := hrel
      by_cases hlt : k < N
      · have hkl : k < xs.length := by rw [← HN.out]; exact hlt
        have hkm : k < ys.length := by rw [← HM.out, ← HNM.out]; exact hlt
        have hkM : (k : Int) < M := by have := HNM.out; omega
        obtain ⟨lb, lo, rfl, hat⟩ := HX.out.some (by omega)
        obtain ⟨cs, hc, a, rfl, ha⟩ := hat k hkl
        obtain ⟨lb', lo', rfl, hat'⟩ := HY.out.some (by omega)
        obtain ⟨cs', hc', a', rfl, ha'⟩ := hat' k hkm
        have c0 := (hc.below hB).one
        have d0 := (hc'.below hB).one
        simp only [KBytes, Nat.mul_one] at c0 d0
        obtain ⟨qa, ca, rfl, _⟩ := ha.any
        obtain ⟨qa', ca', rfl, _⟩ := ha'.any
        have HNO := Lib.hid (alike_no hkl hkm)
        have HYE := Lib.hid (fun h => alike_next hkl hkm h hE)
        generalize xs[k] = x at *
        generalize ys[k] = y at *
        have HB := Lib.hid hB; have HK := Lib.hid hlt
        have HF := Lib.hid (fun (W : World) (hW : Below w.heap.size w W) => equal_any _ _ x y W (ha.below hW) (ha'.below hW))
        clear ha ha' hE hB hc hat hc' hat' hk hkl hkm
        generalize x.length = l1 at *
        generalize y.length = l3 at *
        go_wp2_with fail
        refine (HF.out _ HB.out).mono ?_
        rintro e w1 ⟨rfl, rfl⟩
        have HB1 := HB
        cases he : decide (x = y) with
        | false =>
          have E : Hid (decide (xs = ys) = false) := HNO.out he
          go_wp2
          go_ret
          exact ⟨by rw [E.out]; rfl, HB1.out⟩
        | true =>
          have HNX : Hid (AlikeRel w xs ys (.int .i64 (k + 1 : Nat)) w1) := ⟨k + 1, by have := HN.out; have := HK.out; omega, rfl, HYE.out he, HB1.out⟩
          go_wp2
          go_roundw
          case rel => exact HNX.out
          case measure => simp [intOf]; have := HK.out; omega
      · obtain rfl : k = N := by have := HN.out; omega
        have E : Hid (decide (xs = ys) = true) := alike_yes (by rw [← HN.out, ← HM.out]; exact HNM.out) (by rw [← HN.out]; exact hE)
        have HB := Lib.hid hB
        clear hE hB
        go_wp2
        go_ret
        exact ⟨by rw [E.out]; rfl, HB.out⟩
  · have E : Hid (decide (xs = ys) = false) := alike_len (by rw [← HN.out, ← HM.out]; exact hne)
    have hnm : ((N : Int) != (M : Int)) = true := by simp; omega
    clear hne
    go_enter Tryz.func152, Tryz.ntmps152
    go_wp2
    go_ret
    exact ⟨by rw [E.out]; rfl, Below.refl _ _⟩
theorem ref_part0 (x y : Value) (w : World) : (part 2 #[x, y] 0).run Tryz.prog w = .ok x w := by kernel_rfl
theorem ref_part1 (x y : Value) (w : World) : (part 23 #[x, y] 1).run Tryz.prog w = .ok y w := by kernel_rfl
set_option maxRecDepth 1000000 in
theorem ref_fields : ∃ f0 f1 : Field, (Tryz.prog.fieldsOf 25).toList = [f0, f1] ∧ (f0.name = "Off" ∧ f1.name = "Count") ∧ (f0.offset = 0 ∧ f1.offset = 1) ∧ (f0.type = 2 ∧ f1.type = 23) :=
  ⟨_, _, rfl, ⟨rfl, rfl⟩, ⟨rfl, rfl⟩, ⟨rfl, rfl⟩⟩
theorem ref_neq (a b : Int) (c d : Nat) (w : World) : (binOp .neq 25 (.agg #[.int .i64 a, .int .u64 (c : Nat)]) (.agg #[.int .i64 b, .int .u64 (d : Nat)])).run Tryz.prog w = .ok (.bool (!(decide ((⟨a, c⟩ : NKd) = ⟨b, d⟩)))) w := by
  have e : decide ((⟨a, c⟩ : NKd) = ⟨b, d⟩) = ((a == b) && ((c : Int) == (d : Int))) := by
    rw [Bool.eq_iff_iff]
    simp [Int.natCast_inj]
  obtain ⟨f0, f1, hf, ⟨m0, m1⟩, ⟨o0, o1⟩, ⟨t0, t1⟩⟩ := ref_fields
  have n0 : f0.name ≠ "_" := by rw [m0]; decide
  have n1 : f1.name ≠ "_" := by rw [m1]; decide
  rw [e, run_neq_struct, run_equalIn_struct _ _ _ _ _ (by kernel_rfl) (by kernel_rfl), hf]
  simp only [Op.eqFields, n0, n1, o0, o1, t0, t1, ne_eq, not_false_eq_true, if_true, Sem.run_bind, ref_part0, Result.andThen_ok]
  rw [run_equalIn_int w 9998 2 .i64 .i64 a b (by kernel_rfl)]
  simp only [Result.andThen_ok]
  cases a == b with
  | false => simp
  | true =>
    simp only [Bool.not_true, Bool.false_eq_true, if_false, Sem.run_bind, ref_part1, Result.andThen_ok]
    rw [run_equalIn_int w 9998 23 .u64 .u64 _ _ (by kernel_rfl)]
    cases (c : Int) == (d : Int) <;> simp
set_option maxRecDepth 100000 in
theorem eqRefs_any (p q : Option Addr) (c d : Nat) (xs ys : List NKd) (w : World) (hx : RowAt KRef w p c xs) (hy : RowAt KRef w q d ys) :
    Calls Tryz.prog 153 #[.slice p xs.length c, .slice q ys.length d] w fun e w' => e = .returned (.bool (decide (xs = ys))) ∧ Below w.heap.size w w' := by
  have h0 : AlikeRel w xs ys (.int .i64 (0 : Nat)) w := ⟨0, by omega, rfl, fun j hj => absurd hj (by omega), Below.refl _ _⟩
  have H0 := Lib.hid h0; have HX := Lib.hid hx; have HY := Lib.hid hy
  obtain ⟨N, hN⟩ : ∃ N, N = xs.length := ⟨_, rfl⟩
  obtain ⟨M, hM⟩ : ∃ M, M = ys.length := ⟨_, rfl⟩
  have hN9 : (N : Int) ≤ 9223372036854775807 := by have := hx.le; have := hx.most; unfold maxLen at this; omega
  have HN := Lib.hid hN; have HM := Lib.hid hM
  rw [← hN, ← hM]
  clear h0 hx hy hN hM
  by_cases hne : N = M
  · have HNM := Lib.hid hne
    have hnm : ((N : Int) != (M : Int)) = false := by rw [hne]; simp
    clear hne
    go_enter Tryz.func153, Tryz.ntmps153
    go_wp2
    go_loopw [13] (fun i W => AlikeRel w xs ys i W) (fun i _ => N - (intOf i).toNat)
    case atStart => exact H0.out
    case round =>
      clear H0
      obtain ⟨k, hk, rfl, hE, hB⟩ := hrel
      by_cases hlt : k < N
      · have hkl : k < xs.length := by rw [← HN.out]; exact hlt
        have hkm : k < ys.length := by rw [← HM.out, ← HNM.out]; exact hlt
        have hkM : (k : Int) < M := by have := HNM.out; omega
        obtain ⟨lb, lo, rfl, hat⟩ := HX.out.some (by omega)
        obtain ⟨cs, hc, rfl, _, _⟩ := hat k hkl
        obtain ⟨lb', lo', rfl, hat'⟩ := HY.out.some (by omega)
        obtain ⟨cs', hc', rfl, _, _⟩ := hat' k hkm
        obtain ⟨c0, c1⟩ := (hc.below hB).two
        obtain ⟨d0, d1⟩ := (hc'.below hB).two
        simp only [KRef] at c0 c1 d0 d1
        have HNO := Lib.hid (alike_no hkl hkm)
        have HYE := Lib.hid (fun h => alike_next hkl hkm h hE)
        generalize xs[k] = x at *
        generalize ys[k] = y at *
        have HB := Lib.hid hB; have HK := Lib.hid hlt
        obtain ⟨o1, t1⟩ := x
        obtain ⟨o2, t2⟩ := y
        simp only at c0 c1 d0 d1
        have hne := fun (w : World) => ref_neq o1 o2 t1 t2 w
        clear hE hB hc hat hc' hat' hk hkl hkm
        cases he : decide ((⟨o1, t1⟩ : NKd) = ⟨o2, t2⟩) with
        | false =>
          have E : Hid (decide (xs = ys) = false) := HNO.out he
          rw [he] at hne
          go_wp2
          go_quiet (fail)
          go_wp2
          go_ret
          exact ⟨by rw [E.out]; rfl, HB.out.trans (below_drewN _ _)⟩
        | true =>
          have HNX : Hid (∀ nq, AlikeRel w xs ys (.int .i64 (k + 1 : Nat)) (wr.drewN nq)) := fun nq => ⟨k + 1, by have := HN.out; have := HK.out; omega, rfl, HYE.out he, HB.out.trans (below_drewN _ nq)⟩
          rw [he] at hne
          go_wp2
          go_quiet (fail)
          go_wp2
          go_roundw
          case rel => exact HNX.out _
          case measure => simp [intOf]; have := HK.out; omega
      · obtain rfl : k = N := by have := HN.out; omega
        have E : Hid (decide (xs = ys) = true) := alike_yes (by rw [← HN.out, ← HM.out]; exact HNM.out) (by rw [← HN.out]; exact hE)
        have HB := Lib.hid hB
        clear hE hB
        go_wp2
        go_ret
        exact ⟨by rw [E.out]; rfl, HB.out⟩
  · have E : Hid (decide (xs = ys) = false) := alike_len (by rw [← HN.out, ← HM.out]; exact hne)
    have hnm : ((N : Int) != (M : Int)) = true := by simp; omega
    clear hne
    go_enter Tryz.func153, Tryz.ntmps153
    go_wp2
    go_ret
    exact ⟨by rw [E.out]; rfl, Below.refl _ _⟩
end Go.Proofs.YtlagllhhahomlaaGreat.Sl.Nd
/- Nodes in a program: the same, light. -/
namespace Go.Proofs.YtlagllhhahomlaaGreat.Sl.Nd
open Go Go.RowKit Go.By
def NdAt (w : World) (g : Nat) (n : Nd) (pi : Option Addr) (ci : Nat) (pk : Option Addr) (ck : Nat) (pd : Option Addr) (cd : Nat) : Prop :=
  w.heap[g]? = some (.cells #[.bool n.leaf, .slice pi n.its.length ci, .slice pk n.ks.length ck, .slice pd n.kids.length cd] 38 (0, 0))
theorem NdAt.lt {w : World} {g : Nat} {n : Nd} {pi pk pd : Option Addr} {ci ck cd : Nat} (h : NdAt w g n pi ci pk ck pd cd) : g < w.heap.size := (Array.getElem?_eq_some_iff.1 h).1
theorem NdAt.below {w w' : World} {g : Nat} {n : Nd} {pi pk pd : Option Addr} {ci ck cd : Nat} (h : NdAt w g n pi ci pk ck pd cd) (hb : Below w.heap.size w w') : NdAt w' g n pi ci pk ck pd cd := (hb.block _ h.lt).trans h
theorem NdAt.cells {w : World} {g : Nat} {n : Nd} {pi pk pd : Option Addr} {ci ck cd : Nat} (h : NdAt w g n pi ci pk ck pd cd) : w.cell? ⟨g, 0, none⟩ = some (.bool n.leaf) ∧ w.cell? ⟨g, 1, none⟩ = some (.slice pi n.its.length ci) ∧ w.cell? ⟨g, 2, none⟩ = some (.slice pk n.ks.length ck) ∧ w.cell? ⟨g, 3, none⟩ = some (.slice pd n.kids.length cd) :=
  ⟨cells_of h 0, cells_of h 1, cells_of h 2, cells_of h 3⟩
theorem NdAt.new (w : World) (n : Nd) (pi : Option Addr) (ci : Nat) (pk : Option Addr) (ck : Nat) (pd : Option Addr) (cd : Nat) : NdAt (w.alloc (.cells #[.bool n.leaf, .slice pi n.its.length ci, .slice pk n.ks.length ck, .slice pd n.kids.length cd] 38)) w.heap.size n pi ci pk ck pd cd := heap_alloc_new w _
theorem nd_eq (n m : Nd) : decide (n = m) = ((n.leaf == m.leaf) && (decide (n.its = m.its) && (decide (n.ks = m.ks) && decide (n.kids = m.kids)))) := by
  cases n; cases m
  rw [Bool.eq_iff_iff]
  simp
set_option maxRecDepth 100000 in
theorem same_any {w : World} {v u : Value} {n m : Nd} {pi pk pd pi' pk' pd' : Option Addr} {ci ck cd ci' ck' cd' : Nat} (h : IsNd w v n pi ci pk ck pd cd) (k : IsNd w u m pi' ci' pk' ck' pd' cd') :
    Calls Tryz.prog 116 #[v, u] w fun z w' => z = .returned (.bool (decide (n = m))) ∧ Below w.heap.size w w' := by
  have hv := h.val
  have hu := k.val
  subst hv hu
  obtain ⟨W0, hW0⟩ : ∃ W, W = w.alloc (.cells #[.bool n.leaf, .slice pi n.its.length ci, .slice pk n.ks.length ck, .slice pd n.kids.length cd] 38) := ⟨_, rfl⟩
  obtain ⟨W, hW⟩ : ∃ W, W = W0.alloc (.cells #[.bool m.leaf, .slice pi' m.its.length ci', .slice pk' m.ks.length ck', .slice pd' m.kids.length cd'] 38) := ⟨_, rfl⟩
  have hz0 : W0.heap.size = w.heap.size + 1 := by rw [hW0]; simp
  have hb0 : Below w.heap.size w W0 := by rw [hW0]; exact (Below.refl w.heap.size w).alloc (Nat.le_refl _) _
  have hb1 : Below W0.heap.size W0 W := by rw [hW]; exact (Below.refl _ _).alloc (Nat.le_refl _) _
  have hb : Below w.heap.size w W := hb0.trans (hb1.mono hb0.size)
  have hx : NdAt W w.heap.size n pi ci pk ck pd cd := NdAt.below (by rw [hW0]; exact NdAt.new ..) hb1
  have hy : NdAt W (w.heap.size + 1) m pi' ci' pk' ck' pd' cd' := by rw [hW, ← hz0]; exact NdAt.new ..
  have HB := Lib.hid hb; have HX := Lib.hid hx; have HY := Lib.hid hy
  have HWW : Hid (W = (w.alloc (.cells #[.bool n.leaf, .slice pi n.its.length ci, .slice pk n.ks.length ck, .slice pd n.kids.length cd] 38)).alloc (.cells #[.bool m.leaf, .slice pi' m.its.length ci', .slice pk' m.ks.length ck', .slice pd' m.kids.length cd'] 38)) := by unfold Hid; rw [hW, hW0]
  have HI := Lib.hid (eqItems_any pi pi' ci ci' n.its m.its W (h.its.below hb) (k.its.below hb))
  have HK := Lib.hid (fun W' (hB : Below W.heap.size W W') => eqKeys_any pk pk' ck ck' n.ks m.ks W' ((h.ks.below hb).below hB) ((k.ks.below hb).below hB))
  have HD := Lib.hid (fun W' (hB : Below W.heap.size W W') => eqRefs_any pd pd' cd cd' n.kids m.kids W' ((h.kids.below hb).below hB) ((k.kids.below hb).below hB))
  have HE := Lib.hid (nd_eq n m)
  clear h k hW0 hW hz0 hb0 hb1 hb hx hy
  obtain ⟨c0, c1, c2, c3⟩ := HX.out.cells
  obtain ⟨d0, d1, d2, d3⟩ := HY.out.cells
  generalize hq : (n.leaf == m.leaf) = q at *
  generalize hit : decide (n.its = m.its) = xi at *
  generalize hkt : decide (n.ks = m.ks) = xk at *
  generalize hdt : decide (n.kids = m.kids) = xd at *
  clear hit hkt hdt
  go_enter Tryz.func116, Tryz.ntmps116
  cases q with
  | false =>
    go_wp2
    rw [← HWW.out]
    go_ret
    exact ⟨by rw [HE.out]; rfl, HB.out⟩
  | true =>
    go_wp2_with fail
    rw [← HWW.out]
    refine HI.out.mono ?_
    rintro e w1 ⟨rfl, hb1⟩
    have HB1 := Lib.hid hb1
    have HC1 : Hid (Below w.heap.size w w1) := HB.out.trans (hb1.mono HB.out.size)
    have HX1 := Lib.hid (HX.out.below hb1); have HY1 := Lib.hid (HY.out.below hb1)
    clear c0 c1 c2 c3 d0 d1 d2 d3 hb1
    obtain ⟨c0, c1, c2, c3⟩ := HX1.out.cells
    obtain ⟨d0, d1, d2, d3⟩ := HY1.out.cells
    cases xi with
    | false =>
      go_wp2
      go_ret
      exact ⟨by rw [HE.out]; rfl, HC1.out⟩
    | true =>
      go_wp2_with fail
      refine (HK.out _ HB1.out).mono ?_
      rintro e w2 ⟨rfl, hb2⟩
      have HB2 : Hid (Below W.heap.size W w2) := HB1.out.trans (hb2.mono HB1.out.size)
      have HC2 : Hid (Below w.heap.size w w2) := HC1.out.trans (hb2.mono HC1.out.size)
      have HX2 := Lib.hid (HX1.out.below hb2); have HY2 := Lib.hid (HY1.out.below hb2)
      clear c0 c1 c2 c3 d0 d1 d2 d3 hb2
      obtain ⟨c0, c1, c2, c3⟩ := HX2.out.cells
      obtain ⟨d0, d1, d2, d3⟩ := HY2.out.cells
      cases xk with
      | false =>
        go_wp2
        go_ret
        exact ⟨by rw [HE.out]; rfl, HC2.out⟩
      | true =>
        go_wp2_with fail
        refine (HD.out _ HB2.out).mono ?_
        rintro e w3 ⟨rfl, hb3⟩
        have HC3 : Hid (Below w.heap.size w w3) := HC2.out.trans (hb3.mono HC2.out.size)
        clear c0 c1 c2 c3 d0 d1 d2 d3 hb3
        go_wp2
        go_ret
        exact ⟨by rw [HE.out]; rfl, HC3.out⟩
end Go.Proofs.YtlagllhhahomlaaGreat.Sl.Nd
/- Bytes compared: above; alike. -/
namespace Go.By
open Go Go.RowKit
theorem cmpB_more : ∀ (x y : List UInt8), decide (0 < Lib.compareBytes x y) = Op.bytesLess y x
  | [], [] => rfl
  | [], _ :: _ => rfl
  | _ :: _, [] => rfl
  | a :: x, b :: y => by
    have ih := cmpB_more x y
    rw [Op.bytesLess, Lib.compareBytes, ← ih]
    by_cases h1 : a < b
    · have h2 : ¬ b < a := by rw [UInt8.lt_iff_toNat_lt] at *; omega
      have h3 : (b == a) = false := by
        rw [beq_eq_false_iff_ne]
        intro e
        subst e
        exact h2 h1
      simp [h1, h2, h3]
    · by_cases h2 : b < a
      · simp [h1, h2]
      · have h3 : a = b := by
          apply UInt8.toNat_inj.1
          rw [UInt8.lt_iff_toNat_lt] at h1 h2
          omega
        simp [h3]
theorem cmpN_more {l m : List Nat} (hl : ∀ c ∈ l, c < 256) (hm : ∀ c ∈ m, c < 256) : decide (0 < cmpN l m) = lessN m l := by
  unfold cmpN
  rw [cmpB_more, less_nats, u8s_nats hl, u8s_nats hm]
end Go.By
/- Changes of rows of items: plain. -/
namespace Go.By
open Go Go.RowKit
structure NCh where
  k : List Nat
  v : List Nat
  out : Bool
deriving DecidableEq
def KChange : Kind NCh where
  width := 3
  is w cs c := ∃ a b, cs = [a, b, .bool c.out] ∧ Bytes w a c.k ∧ Bytes w b c.v
  len h := by obtain ⟨a, b, rfl, _⟩ := h; rfl
  stays h hb := by obtain ⟨a, b, rfl, h1, h2⟩ := h; exact ⟨a, b, rfl, h1.below hb, h2.below hb⟩
theorem KChange.mk {w : World} {a b : Value} {c : NCh} {o : Bool} (ho : o = c.out) (ha : Bytes w a c.k) (hb : Bytes w b c.v) : KChange.is w [a, b, .bool o] c := ⟨a, b, by rw [ho], ha, hb⟩
def mostVal (c : NCh) : Nat := if c.out = true then 0 else 120
def okCh (last : List Nat) (c : NCh) : Bool := lessN last c.k && (decide (c.k.length ≤ 40) && decide (c.v.length ≤ mostVal c))
def risesCh : List Nat → List NCh → Bool
  | _, [] => true
  | last, c :: r => okCh last c && risesCh c.k r
def isAb (k : List Nat) (i : NIt) : Bool := lessN i.k k
def front (k : List Nat) : List NIt → Nat
  | [] => 0
  | i :: r => if isAb k i = true then front k r + 1 else 0
theorem front_le (k : List Nat) : ∀ l : List NIt, front k l ≤ l.length
  | [] => Nat.le_refl _
  | i :: r => by
    rw [front]
    split
    · have := front_le k r
      simp
      omega
    · simp
theorem front_at {k : List Nat} : ∀ {l : List NIt} {j : Nat} (h : j < l.length), j < front k l → isAb k l[j] = true
  | i :: r, 0, _, h => by
    rw [front] at h
    split at h
    · assumption
    · omega
  | i :: r, j + 1, h, h' => by
    rw [front] at h'
    split at h'
    · rw [List.getElem_cons_succ]
      exact front_at (by simpa using h) (by omega)
    · omega
theorem front_end {k : List Nat} : ∀ {l : List NIt} (h : front k l < l.length), isAb k l[front k l] = false
  | i :: r, h => by
    by_cases hi : isAb k i = true
    · have e : front k (i :: r) = front k r + 1 := by rw [front, if_pos hi]
      simp only [e] at h ⊢
      rw [List.getElem_cons_succ]
      exact front_end (by simpa using h)
    · have e : front k (i :: r) = 0 := by rw [front, if_neg hi]
      simp only [e] at h ⊢
      simpa using hi
theorem front_of {k : List Nat} {l : List NIt} {n : Nat} (hn : n ≤ l.length) (h1 : ∀ j (h : j < l.length), j < n → isAb k l[j] = true) (h2 : ∀ h : n < l.length, isAb k l[n] = false) : front k l = n := by
  have hl := front_le k l
  rcases Nat.lt_trichotomy (front k l) n with h | h | h
  · have e := front_end (k := k) (l := l) (by omega)
    rw [h1 _ (by omega) h] at e
    cases e
  · exact h
  · have e := front_at (k := k) (l := l) (j := n) (by omega) h
    rw [h2 (by omega)] at e
    cases e
def passed (k : List Nat) : List NIt → List NIt
  | [] => []
  | i :: r => if k = i.k then r else i :: r
def putsCh (c : NCh) : List NIt := if c.out = true then [] else [⟨c.k, c.v⟩]
def step1 (c : NCh) (x : List NIt × List NIt) : List NIt × List NIt := (x.1.drop (front c.k x.1), x.2 ++ x.1.take (front c.k x.1))
def step2 (c : NCh) (x : List NIt × List NIt) : List NIt × List NIt := (passed c.k x.1, x.2)
def step3 (c : NCh) (x : List NIt × List NIt) : List NIt × List NIt := (x.1, x.2 ++ putsCh c)
def stepAll (x : List NIt × List NIt) (c : NCh) : List NIt × List NIt := step3 c (step2 c (step1 c x))
def applyN (its : List NIt) (l : List NCh) : List NIt := ((l.foldl stepAll (its, [])).2 ++ (l.foldl stepAll (its, [])).1)
theorem passed_le (k : List Nat) (l : List NIt) : (passed k l).length ≤ l.length := by
  cases l with
  | nil => exact Nat.le_refl _
  | cons i r =>
    rw [passed]
    split <;> simp
theorem stepAll_len (x : List NIt × List NIt) (c : NCh) : (stepAll x c).1.length + (stepAll x c).2.length ≤ x.1.length + x.2.length + 1 := by
  have h1 := front_le c.k x.1
  have h2 := passed_le c.k (x.1.drop (front c.k x.1))
  have h3 : (putsCh c).length ≤ 1 := by unfold putsCh; split <;> simp
  unfold stepAll step3 step2 step1
  simp only [List.length_append, List.length_take, List.length_drop] at h2 ⊢
  omega
theorem fold_len : ∀ (l : List NCh) (x : List NIt × List NIt), (l.foldl stepAll x).1.length + (l.foldl stepAll x).2.length ≤ x.1.length + x.2.length + l.length
  | [], x => Nat.le_refl _
  | c :: l, x => by
    have h1 := fold_len l (stepAll x c)
    have h2 := stepAll_len x c
    rw [List.foldl_cons, List.length_cons]
    omega
end Go.By
