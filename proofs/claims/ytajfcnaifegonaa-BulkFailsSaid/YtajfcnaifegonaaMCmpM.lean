/- bytes.Compare, bytes.Equal. -/
import Derived.Test.YtajfcnaifegonaaMCloneG
import Derived.Test.YtajfcnaifegonaaMHdP
import Derived.Lib.Bytealg
import Derived.Test.YtajfcnaifegonaaMNdO
namespace Go.By
open Go Go.RowKit
def u8s (l : List Nat) : List UInt8 := l.map UInt8.ofNat
theorem u8s_nats {l : List Nat} (h : ∀ c ∈ l, c < 256) : (u8s l).map UInt8.toNat = l := by
  unfold u8s
  rw [List.map_map]
  conv => rhs; rw [← List.map_id l]
  apply List.map_congr_left
  intro c hc
  have := h c hc
  simp
  omega
def cmpN (l m : List Nat) : Int := Lib.compareBytes (u8s l) (u8s m)
theorem cmpB_less : ∀ (x y : List UInt8), decide (Lib.compareBytes x y < 0) = Op.bytesLess x y
  | [], [] => rfl
  | [], _ :: _ => rfl
  | _ :: _, [] => rfl
  | a :: x, b :: y => by
    have ih := cmpB_less x y
    rw [Op.bytesLess, Lib.compareBytes, ← ih]
    by_cases h1 : a < b
    · simp [h1]
    · by_cases h2 : b < a
      · have h3 : (a == b) = false := by
          rw [beq_eq_false_iff_ne]
          intro e
          subst e
          exact h1 h2
        simp [h1, h2, h3]
      · have h3 : a = b := by
          apply UInt8.toNat_inj.1
          rw [UInt8.lt_iff_toNat_lt] at h1 h2
          omega
        simp [h3]
theorem cmpN_less {l m : List Nat} (hl : ∀ c ∈ l, c < 256) (hm : ∀ c ∈ m, c < 256) : decide (cmpN l m < 0) = lessN l m := by
  unfold cmpN
  rw [cmpB_less, less_nats, u8s_nats hl, u8s_nats hm]
theorem load_list {P : Program} {w : World} {b : Nat} : ∀ {l : List Nat} {off : Nat} {acc : ByteArray}, (∀ i, i < l.length → w.cell? ⟨b, off + i, none⟩ = some (.int .u8 (atB l i : Nat))) →
    (Extern.Bytes.loadBytes ⟨b, off, none⟩ l.length acc).run P w = .ok ⟨acc.data ++ (u8s l).toArray⟩ w
  | [], off, acc, _ => by
    simp [Extern.Bytes.loadBytes, u8s]
  | c :: l, off, acc, h => by
    have h0 := h 0 (by simp)
    rw [Nat.add_zero] at h0
    have ih := load_list (P := P) (w := w) (b := b) (l := l) (off := off + 1) (acc := acc.push (UInt8.ofNat c)) (fun i hi => by
      have := h (i + 1) (by simp; omega)
      rw [show off + 1 + i = off + (i + 1) by omega, this]
      simp [atB])
    rw [List.length_cons]
    unfold Extern.Bytes.loadBytes
    rw [Sem.run_bind, run_load]
    simp only [h0, Result.andThen_ok, Addr.add_lit]
    have e : (atB (c :: l) 0) = c := by simp [atB]
    rw [e]
    have e2 : (Int.toNat (c : Int)).toUInt8 = UInt8.ofNat c := by rw [Int.toNat_natCast]
    rw [e2, ih]
    congr 1
    simp [u8s, ByteArray.push]
theorem bytesOf_run {P : Program} {w : World} {v : Value} {l : List Nat} (h : Bytes w v l) : (Extern.Bytes.bytesOf v).run P w = .ok ⟨(u8s l).toArray⟩ w := by
  rcases h.out with ⟨rfl, rfl⟩ | ⟨a, rfl, rfl⟩ | ⟨b, off, cap, rfl, _, hc⟩
  · rfl
  · rfl
  · show (Extern.Bytes.loadBytes ⟨b, off, none⟩ l.length .empty).run P w = _
    rw [load_list hc]
    congr 2
    exact Array.empty_append
theorem compare_run {P : Program} {w : World} {v u : Value} {l m : List Nat} (h : Bytes w v l) (k : Bytes w u m) : (Extern.BytealgCompare.compare #[v, u]).run P w = .ok (.int .i64 (cmpN l m)) w := by
  change Sem.run P (do pure (goInt (Extern.BytealgCompare.cmp (← Extern.Bytes.bytesOf v) (← Extern.Bytes.bytesOf u)))) w = _
  simp only [Sem.run_bind, bytesOf_run h, bytesOf_run k, Sem.run_pure, Result.andThen]
  rw [Lib.cmp_eq]
  rfl
end Go.By
namespace Go.Proofs.Ytajfcnaifegonaa.Sl.Nd
open Go Go.RowKit Go.By
set_option maxRecDepth 100000 in
theorem compare_any (v u : Value) (l m : List Nat) (w : World) (hv : Bytes w v l) (hu : Bytes w u m) :
    Calls Try.prog 95 #[v, u] w fun e w' => e = .returned (.int .i64 (cmpN l m)) ∧ w' = w := by
  have hx := run_callFunc_extern Try.func96 (by kernel_rfl) (by kernel_rfl) (by kernel_rfl) (show Extern.find Try.f96 = some Extern.BytealgCompare.compare by kernel_rfl) #[v, u] w
  rw [compare_run hv hu] at hx
  clear hv hu
  generalize cmpN l m = x at *
  go_enter Try.func95, Try.ntmps95
  go_wp2
  go_ret
  exact ⟨rfl, rfl⟩
end Go.Proofs.Ytajfcnaifegonaa.Sl.Nd
/- Nodes in a program: bytes.Compare; which keys may follow. -/
namespace Go.By
open Go Go.RowKit
def follows (l m : List Nat) : Bool := decide (m.length ≤ 40) && lessN l m
def risesFrom (l : List Nat) : List (List Nat) → Bool
  | [] => true
  | k :: r => follows l k && risesFrom k r
def itsFrom (l : List Nat) : List NIt → Bool
  | [] => true
  | i :: r => (follows l i.k && decide (i.v.length ≤ 120)) && itsFrom i.k r
theorem lessN_pos {l m : List Nat} (h : lessN l m = true) : 1 ≤ m.length := by
  cases m with
  | nil => rw [lessN_nil_right] at h; cases h
  | cons _ _ => simp
theorem lessN_nil {m : List Nat} : lessN [] m = decide (1 ≤ m.length) := by
  cases m with
  | nil => rfl
  | cons _ _ => simp [lessN]
theorem risesFrom_eq : ∀ (l : List Nat) (ks : List (List Nat)), risesFrom l ks = (ks.all mayK && (risesN ks && (ks.head?.all (lessN l))))
  | l, [] => rfl
  | l, [k] => by
    unfold risesFrom risesFrom follows mayK risesN
    cases h : lessN l k with
    | false => simp [h]
    | true =>
      have := lessN_pos h
      simp [h]
      cases k with
      | nil => simp at this
      | cons _ _ => simp
  | l, k :: j :: r => by
    rw [risesFrom, risesFrom_eq k (j :: r)]
    generalize hA : (j :: r).all mayK = A
    generalize hB : risesN (j :: r) = B
    have e1 : (k :: j :: r).all mayK = (mayK k && A) := by rw [← hA]; rfl
    have e2 : risesN (k :: j :: r) = (lessN k j && B) := by rw [← hB]; rfl
    rw [e1, e2]
    unfold follows mayK
    rw [List.head?_cons, List.head?_cons, Option.all_some, Option.all_some]
    cases h : lessN l k with
    | false => simp
    | true =>
      rw [decide_eq_true (lessN_pos h)]
      cases decide (k.length ≤ 40) <;> cases A <;> cases B <;> cases lessN k j <;> rfl
theorem risesFrom_nil (ks : List (List Nat)) : risesFrom [] ks = (ks.all mayK && risesN ks) := by
  rw [risesFrom_eq]
  cases ks with
  | nil => rfl
  | cons k r =>
    rw [List.head?_cons, Option.all_some, lessN_nil, List.all_cons, mayK]
    cases decide (1 ≤ k.length) <;> simp
theorem itsFrom_eq : ∀ (l : List Nat) (is : List NIt), itsFrom l is = (is.all (fun i => decide (i.v.length ≤ 120)) && risesFrom l (is.map (·.k)))
  | l, [] => rfl
  | l, i :: r => by
    rw [itsFrom, itsFrom_eq i.k r, List.map_cons, risesFrom, List.all_cons]
    cases follows l i.k <;> cases decide (i.v.length ≤ 120) <;> simp
theorem itsFrom_nil (is : List NIt) : itsFrom [] is = (is.all mayIt && risesN (is.map (·.k))) := by
  rw [itsFrom_eq, risesFrom_nil]
  have e : is.all mayIt = (is.all (fun i => decide (i.v.length ≤ 120)) && (is.map (·.k)).all mayK) := by
    induction is with
    | nil => rfl
    | cons i r ih =>
      rw [List.all_cons, ih, List.all_cons, List.map_cons, List.all_cons, mayIt]
      cases mayK i.k <;> cases decide (i.v.length ≤ 120) <;> simp
  rw [e, Bool.and_assoc]
end Go.By
namespace Go.Proofs.Ytajfcnaifegonaa.Sl.Nd
open Go Go.RowKit Go.By
set_option maxRecDepth 100000 in
theorem mayFollow_any (v u : Value) (l m : List Nat) (w : World) (hv : Bytes w v l) (hu : Bytes w u m) :
    Calls Try.prog 91 #[v, u] w fun e w' => e = .returned (.bool (follows l m)) ∧ w' = w := by
  have HC := Lib.hid (compare_any v u l m w hv hu)
  have hE : follows l m = (decide (m.length ≤ 40) && decide (cmpN l m < 0)) := by unfold follows; rw [cmpN_less hv.small hu.small]
  obtain ⟨q, cq, rfl, _⟩ := hu.any
  have HE := Lib.hid hE
  clear hv hu hE
  generalize cmpN l m = x at *
  by_cases h1 : (m.length : Int) ≤ 40
  · have E : Hid (follows l m = decide (x < 0)) := by unfold Hid; rw [HE.out, decide_eq_true (show m.length ≤ 40 by omega)]; rfl
    generalize m.length = L at *
    go_enter Try.func91, Try.ntmps91
    go_wp2_with fail
    refine HC.out.mono ?_
    rintro e w1 ⟨rfl, rfl⟩
    go_wp2
    go_ret
    exact ⟨by rw [E.out]; rfl, rfl⟩
  · have E : Hid (follows l m = false) := by unfold Hid; rw [HE.out, decide_eq_false (show ¬ m.length ≤ 40 by omega)]; rfl
    generalize m.length = L at *
    go_enter Try.func91, Try.ntmps91
    go_wp2
    go_ret
    exact ⟨by rw [E.out]; rfl, rfl⟩
def soMany (f n : Nat) : Bool := decide (f ≤ n ∧ n ≤ 8)
set_option maxRecDepth 100000 in
theorem soMany_any (n f : Nat) (w : World) :
    Calls Try.prog 79 #[.int .i64 n, .int .i64 f] w fun e w' => e = .returned (.bool (soMany f n)) ∧ w' = w := by
  by_cases h1 : (f : Int) ≤ n
  · have E : Hid (soMany f n = decide ((n : Int) ≤ 8)) := by unfold Hid soMany; exact decide_eq_decide.2 (by omega)
    go_enter Try.func79, Try.ntmps79
    go_wp2
    go_ret
    exact ⟨by rw [E.out]; rfl, rfl⟩
  · have E : Hid (soMany f n = false) := by unfold Hid soMany; exact decide_eq_false (by omega)
    go_enter Try.func79, Try.ntmps79
    go_wp2
    go_ret
    exact ⟨by rw [E.out]; rfl, rfl⟩
end Go.Proofs.Ytajfcnaifegonaa.Sl.Nd
/- Nodes in a program: rows that may be. -/
namespace Go.Proofs.Ytajfcnaifegonaa.Sl.Nd
open Go Go.RowKit Go.By
def MayItsRel (w : World) (its : List NIt) (last i : Value) (wr : World) : Prop :=
  ∃ (k : Nat) (L : List Nat), k ≤ its.length ∧ i = .int .i64 k ∧ Bytes w last L ∧ itsFrom [] its = itsFrom L (its.drop k) ∧ Below w.heap.size w wr
theorem itsFrom_at {L : List Nat} {its : List NIt} {k : Nat} (h : k < its.length) : itsFrom L (its.drop k) = ((follows L its[k].k && decide (its[k].v.length ≤ 120)) && itsFrom its[k].k (its.drop (k + 1))) := by
  rw [List.drop_eq_getElem_cons h, itsFrom]
set_option maxRecDepth 100000 in
theorem mayItems_any (p : Option Addr) (cap : Nat) (its : List NIt) (w : World) (h : RowAt KItem w p cap its) :
    Calls Try.prog 80 #[.slice p its.length cap] w fun e w' => e = .returned (.bool (itsFrom [] its)) ∧ Below w.heap.size w w' := by
  have h0 : MayItsRel w its (.slice none 0 0) (.int .i64 (0 : Nat)) w := ⟨0, [], by omega, rfl, Bytes.nil w, rfl, Below.refl _ _⟩
  have H0 := Lib.hid h0; have HR := Lib.hid h
  obtain ⟨N, hN⟩ : ∃ N, N = its.length := ⟨_, rfl⟩
  have hN9 : (N : Int) ≤ 9223372036854775807 := by have := h.le; have := h.most; unfold maxLen at this; omega
  have HN := Lib.hid hN
  rw [← hN]
  clear h0 h hN
  go_enter Try.func80, Try.ntmps80
  go_wp2
  go_loopw [3, 8] (fun x i W => MayItsRel w its x i W) (fun _ i _ => N - (intOf i).toNat)
  case atStart => exact H0.out
  case round =>
    clear H0
    obtain ⟨k, L, hk, rfl, hL, hE, hB⟩ := hrel
    by_cases hlt : k < N
    · have hkl : k < its.length := by rw [← HN.out]; exact hlt
      obtain ⟨lb, lo, rfl, hat⟩ := HR.out.some (by omega)
      obtain ⟨cs, hc, a, b, rfl, ha, hb⟩ := hat k hkl
      obtain ⟨c0, c1⟩ := (hc.below hB).two
      simp only [KItem] at c0 c1
      have hE2 := hE
      rw [itsFrom_at hkl] at hE2
      generalize hit : its[k] = it at *
      obtain ⟨qa, ca, rfl, _⟩ := ha.any
      obtain ⟨qb, cb, rfl, _⟩ := hb.any
      have HA := Lib.hid ha; have HLL := Lib.hid hL; have HB := Lib.hid hB; have HE := Lib.hid hE2; have HK := Lib.hid hlt
      have HF := Lib.hid (fun (W : World) (hW : Below w.heap.size w W) => mayFollow_any u3 (.slice qa it.k.length ca) L it.k W (hL.below hW) (ha.below hW))
      clear ha hL hB hE hE2 hc hat hb hk hkl hit
      go_wp2_with fail
      refine (HF.out _ (HB.out.alloc HB.out.size _)).mono ?_
      rintro e w1 ⟨rfl, rfl⟩
      cases hf : follows L it.k with
      | false =>
        have E : Hid (itsFrom [] its = false) := by unfold Hid; rw [HE.out, hf]; rfl
        go_wp2
        go_ret
        exact ⟨by rw [E.out]; rfl, HB.out.alloc HB.out.size _⟩
      | true =>
        by_cases hv : (it.v.length : Int) ≤ 120
        · have E : Hid (itsFrom [] its = itsFrom it.k (its.drop (k + 1))) := by unfold Hid; rw [HE.out, hf, decide_eq_true (show it.v.length ≤ 120 by omega)]; rfl
          have HNX : Hid (MayItsRel w its (.slice qa it.k.length ca) (.int .i64 (k + 1 : Nat)) (wr.alloc (.cells #[.slice qa it.k.length ca, .slice qb it.v.length cb] 34))) :=
            ⟨k + 1, it.k, by have := HN.out; have := HK.out; omega, rfl, HA.out, E.out, HB.out.alloc HB.out.size _⟩
          generalize it.k.length = LK at *
          generalize it.v.length = LV at *
          go_wp2
          go_roundw
          case rel => exact HNX.out
          case measure => simp [intOf]; have := HK.out; omega
        · have E : Hid (itsFrom [] its = false) := by unfold Hid; rw [HE.out, hf, decide_eq_false (show ¬ it.v.length ≤ 120 by omega)]; rfl
          generalize it.k.length = LK at *
          generalize it.v.length = LV at *
          go_wp2
          go_ret
          exact ⟨by rw [E.out]; rfl, HB.out.alloc HB.out.size _⟩
    · have E : Hid (itsFrom [] its = true) := by unfold Hid; rw [hE, List.drop_of_length_le (by rw [← HN.out]; omega)]; rfl
      have HB := Lib.hid hB
      clear hE hL hB
      obtain rfl : k = N := by have := HN.out; omega
      go_wp2
      go_ret
      exact ⟨by rw [E.out]; rfl, HB.out⟩
def MayKsRel (w : World) (ks : List (List Nat)) (last i : Value) (wr : World) : Prop :=
  ∃ (k : Nat) (L : List Nat), k ≤ ks.length ∧ i = .int .i64 k ∧ Bytes w last L ∧ risesFrom [] ks = risesFrom L (ks.drop k) ∧ Below w.heap.size w wr
theorem risesFrom_at {L : List Nat} {ks : List (List Nat)} {k : Nat} (h : k < ks.length) : risesFrom L (ks.drop k) = (follows L ks[k] && risesFrom ks[k] (ks.drop (k + 1))) := by
  rw [List.drop_eq_getElem_cons h, risesFrom]
set_option maxRecDepth 100000 in
theorem mayKeys_any (p : Option Addr) (cap : Nat) (ks : List (List Nat)) (w : World) (h : RowAt KBytes w p cap ks) :
    Calls Try.prog 81 #[.slice p ks.length cap] w fun e w' => e = .returned (.bool (risesFrom [] ks)) ∧ Below w.heap.size w w' := by
  have h0 : MayKsRel w ks (.slice none 0 0) (.int .i64 (0 : Nat)) w := ⟨0, [], by omega, rfl, Bytes.nil w, rfl, Below.refl _ _⟩
  have H0 := Lib.hid h0; have HR := Lib.hid h
  obtain ⟨N, hN⟩ : ∃ N, N = ks.length := ⟨_, rfl⟩
  have hN9 : (N : Int) ≤ 9223372036854775807 := by have := h.le; have := h.most; unfold maxLen at this; omega
  have HN := Lib.hid hN
  rw [← hN]
  clear h0 h hN
  go_enter Try.func81, Try.ntmps81
  go_wp2
  go_loopw [3, 8] (fun x i W => MayKsRel w ks x i W) (fun _ i _ => N - (intOf i).toNat)
  case atStart => exact H0.out
  case round =>
    clear H0
    obtain ⟨k, L, hk, rfl, hL, hE, hB⟩ := hrel
    by_cases hlt : k < N
    · have hkl : k < ks.length := by rw [← HN.out]; exact hlt
      obtain ⟨lb, lo, rfl, hat⟩ := HR.out.some (by omega)
      obtain ⟨cs, hc, a, rfl, ha⟩ := hat k hkl
      have c0 := (hc.below hB).one
      simp only [KBytes, Nat.mul_one] at c0
      have hE2 := hE
      rw [risesFrom_at hkl] at hE2
      generalize hit : ks[k] = it at *
      obtain ⟨qa, ca, rfl, _⟩ := ha.any
      have HA := Lib.hid ha; have HLL := Lib.hid hL; have HB := Lib.hid hB; have HE := Lib.hid hE2; have HK := Lib.hid hlt
      have HF := Lib.hid (fun (W : World) (hW : Below w.heap.size w W) => mayFollow_any u3 (.slice qa it.length ca) L it W (hL.below hW) (ha.below hW))
      clear ha hL hB hE hE2 hc hat hk hkl hit
      go_wp2_with fail
      refine (HF.out _ HB.out).mono ?_
      rintro e w1 ⟨rfl, rfl⟩
      cases hf : follows L it with
      | false =>
        have E : Hid (risesFrom [] ks = false) := by unfold Hid; rw [HE.out, hf]; rfl
        go_wp2
        go_ret
        exact ⟨by rw [E.out]; rfl, HB.out⟩
      | true =>
        have E : Hid (risesFrom [] ks = risesFrom it (ks.drop (k + 1))) := by unfold Hid; rw [HE.out, hf]; rfl
        have HNX : Hid (MayKsRel w ks (.slice qa it.length ca) (.int .i64 (k + 1 : Nat)) w1) :=
          ⟨k + 1, it, by have := HN.out; have := HK.out; omega, rfl, HA.out, E.out, HB.out⟩
        generalize it.length = LK at *
        go_wp2
        go_roundw
        case rel => exact HNX.out
        case measure => simp [intOf]; have := HK.out; omega
    · have E : Hid (risesFrom [] ks = true) := by unfold Hid; rw [hE, List.drop_of_length_le (by rw [← HN.out]; omega)]; rfl
      have HB := Lib.hid hB
      clear hE hL hB
      obtain rfl : k = N := by have := HN.out; omega
      go_wp2
      go_ret
      exact ⟨by rw [E.out]; rfl, HB.out⟩
def MayKdsRel (w : World) (kids : List NKd) (i : Value) (wr : World) : Prop :=
  ∃ (k : Nat), k ≤ kids.length ∧ i = .int .i64 k ∧ kids.all mayKd = (kids.drop k).all mayKd ∧ Below w.heap.size w wr
set_option maxRecDepth 100000 in
theorem mayKids_any (p : Option Addr) (cap : Nat) (kids : List NKd) (w : World) (h : RowAt KRef w p cap kids) :
    Calls Try.prog 82 #[.slice p kids.length cap] w fun e w' => e = .returned (.bool (kids.all mayKd)) ∧ Below w.heap.size w w' := by
  have h0 : MayKdsRel w kids (.int .i64 (0 : Nat)) w := ⟨0, by omega, rfl, rfl, Below.refl _ _⟩
  have H0 := Lib.hid h0; have HR := Lib.hid h
  obtain ⟨N, hN⟩ : ∃ N, N = kids.length := ⟨_, rfl⟩
  have hN9 : (N : Int) ≤ 9223372036854775807 := by have := h.le; have := h.most; unfold maxLen at this; omega
  have HN := Lib.hid hN
  rw [← hN]
  clear h0 h hN
  go_enter Try.func82, Try.ntmps82
  go_wp2
  go_loopw [7] (fun i W => MayKdsRel w kids i W) (fun i _ => N - (intOf i).toNat)
  case atStart => exact H0.out
  case round =>
    clear H0
    obtain ⟨k, hk, rfl, hE, hB⟩ := hrel
    by_cases hlt : k < N
    · have hkl : k < kids.length := by rw [← HN.out]; exact hlt
      obtain ⟨lb, lo, rfl, hat⟩ := HR.out.some (by omega)
      obtain ⟨cs, hc, rfl, hoff, hct⟩ := hat k hkl
      obtain ⟨c0, c1⟩ := (hc.below hB).two
      simp only [KRef] at c0 c1
      have hE2 := hE
      rw [List.drop_eq_getElem_cons hkl, List.all_cons] at hE2
      generalize hit : kids[k] = it at *
      obtain ⟨off, ct⟩ := it
      simp only at c0 c1 hoff hct
      have HB := Lib.hid hB; have HE := Lib.hid hE2; have HK := Lib.hid hlt
      have HB1 : Hid (Below w.heap.size w (wr.alloc (.cells #[.int .i64 off, .int .u64 (ct : Nat)] 39))) := HB.out.alloc HB.out.size _
      clear hB hE hE2 hc hat hk hkl hit
      by_cases h1 : 1 ≤ off
      · by_cases h2 : (1 : Int) ≤ ct
        · by_cases h3 : (ct : Int) ≤ 1099511627776
          · have E : Hid (kids.all mayKd = (kids.drop (k + 1)).all mayKd) := by unfold Hid; rw [HE.out, mayKd, decide_eq_true h1, decide_eq_true (show 1 ≤ ct by omega), decide_eq_true (show ct ≤ 1099511627776 by omega)]; rfl
            have HNX : Hid (MayKdsRel w kids (.int .i64 (k + 1 : Nat)) (wr.alloc (.cells #[.int .i64 off, .int .u64 (ct : Nat)] 39))) :=
              ⟨k + 1, by have := HN.out; have := HK.out; omega, rfl, E.out, HB1.out⟩
            go_wp2
            go_roundw
            case rel => exact HNX.out
            case measure => simp [intOf]; have := HK.out; omega
          · have E : Hid (kids.all mayKd = false) := by unfold Hid; rw [HE.out, mayKd, decide_eq_false (show ¬ ct ≤ 1099511627776 by omega)]; simp
            go_wp2
            go_ret
            exact ⟨by rw [E.out]; rfl, HB1.out⟩
        · have E : Hid (kids.all mayKd = false) := by unfold Hid; rw [HE.out, mayKd, decide_eq_false (show ¬ 1 ≤ ct by omega)]; simp
          go_wp2
          go_ret
          exact ⟨by rw [E.out]; rfl, HB1.out⟩
      · have E : Hid (kids.all mayKd = false) := by unfold Hid; rw [HE.out, mayKd, decide_eq_false h1]; rfl
        go_wp2
        go_ret
        exact ⟨by rw [E.out]; rfl, HB1.out⟩
    · have E : Hid (kids.all mayKd = true) := by unfold Hid; rw [hE, List.drop_of_length_le (by rw [← HN.out]; omega)]; rfl
      have HB := Lib.hid hB
      clear hE hB
      obtain rfl : k = N := by have := HN.out; omega
      go_wp2
      go_ret
      exact ⟨by rw [E.out]; rfl, HB.out⟩
end Go.Proofs.Ytajfcnaifegonaa.Sl.Nd
/- Nodes in a program: which may be. -/
namespace Go.By
open Go Go.RowKit
def leafOk (n : Nd) : Bool := decide (n.ks.length = 0) && (decide (n.kids.length = 0) && (decide (1 ≤ n.its.length ∧ n.its.length ≤ 8) && itsFrom [] n.its))
def innerOk (n : Nd) : Bool := decide (n.its.length = 0) && (decide (n.ks.length = n.kids.length) && (decide (2 ≤ n.kids.length ∧ n.kids.length ≤ 8) && (risesFrom [] n.ks && n.kids.all mayKd)))
theorem leafOk_eq (n : Nd) : mayLf n = leafOk n := by
  unfold mayLf leafOk
  rw [itsFrom_nil]
  have e1 : decide (n.ks = []) = decide (n.ks.length = 0) := decide_eq_decide.2 (by simp)
  have e2 : decide (n.kids = []) = decide (n.kids.length = 0) := decide_eq_decide.2 (by simp)
  rw [e1, e2]
  cases decide (n.ks.length = 0) <;> cases decide (n.kids.length = 0) <;> cases decide (1 ≤ n.its.length ∧ n.its.length ≤ 8) <;> cases n.its.all mayIt <;> cases risesN (n.its.map (·.k)) <;> rfl
theorem innerOk_eq (n : Nd) : mayIn n = innerOk n := by
  unfold mayIn innerOk
  rw [risesFrom_nil]
  have e1 : decide (n.its = []) = decide (n.its.length = 0) := decide_eq_decide.2 (by simp)
  rw [e1]
  cases decide (n.its.length = 0) <;> cases decide (n.ks.length = n.kids.length) <;> cases decide (2 ≤ n.kids.length ∧ n.kids.length ≤ 8) <;> cases n.ks.all mayK <;> cases risesN n.ks <;> cases n.kids.all mayKd <;> rfl
end Go.By
namespace Go.Proofs.Ytajfcnaifegonaa.Sl.Nd
open Go Go.RowKit Go.By
set_option maxRecDepth 100000 in
theorem mayLeaf_any {w : World} {v : Value} {n : Nd} {pi pk pd : Option Addr} {ci ck cd : Nat} (h : IsNd w v n pi ci pk ck pd cd) :
    Calls Try.prog 61 #[v] w fun e w' => e = .returned (.bool (mayLf n)) ∧ Below w.heap.size w w' := by
  have hv := h.val
  subst hv
  have HB := Lib.hid ((Below.refl w.heap.size w).alloc (Nat.le_refl _) (.cells #[.bool n.leaf, .slice pi n.its.length ci, .slice pk n.ks.length ck, .slice pd n.kids.length cd] 93))
  have HC := Lib.hid (mayItems_any pi ci n.its _ (h.its.below HB.out))
  have HS := Lib.hid (fun W => soMany_any n.its.length 1 W)
  have HE : Hid (mayLf n = leafOk n) := leafOk_eq n
  unfold leafOk at HE
  have HN : Hid (soMany 1 n.its.length = decide (1 ≤ n.its.length ∧ n.its.length ≤ 8)) := rfl
  clear h
  cases h1 : ((n.ks.length : Int) == 0) with
  | false =>
    have E : Hid (mayLf n = false) := by unfold Hid; rw [HE.out, decide_eq_false (by rw [beq_eq_false_iff_ne] at h1; omega)]; rfl
    go_enter Try.func61, Try.ntmps61
    go_wp2
    go_ret
    exact ⟨by rw [E.out]; rfl, HB.out⟩
  | true =>
    cases h2 : ((n.kids.length : Int) == 0) with
    | false =>
      have E : Hid (mayLf n = false) := by unfold Hid; rw [HE.out, decide_eq_false (show ¬ n.kids.length = 0 by rw [beq_eq_false_iff_ne] at h2; omega)]; simp
      go_enter Try.func61, Try.ntmps61
      go_wp2
      go_ret
      exact ⟨by rw [E.out]; rfl, HB.out⟩
    | true =>
      go_enter Try.func61, Try.ntmps61
      go_wp2_with fail
      refine (HS.out _).mono ?_
      rintro e w1 ⟨rfl, rfl⟩
      cases h3 : soMany 1 n.its.length with
      | false =>
        have E : Hid (mayLf n = false) := by unfold Hid; rw [HE.out, ← HN.out, h3]; simp
        go_wp2
        go_ret
        exact ⟨by rw [E.out]; rfl, HB.out⟩
      | true =>
        have E : Hid (mayLf n = itsFrom [] n.its) := by
          unfold Hid
          rw [HE.out, ← HN.out, h3, decide_eq_true (show n.ks.length = 0 by rw [beq_iff_eq] at h1; omega), decide_eq_true (show n.kids.length = 0 by rw [beq_iff_eq] at h2; omega)]
          rfl
        go_wp2_with fail
        refine HC.out.mono ?_
        rintro e w2 ⟨rfl, hb2⟩
        have HB2 : Hid (Below w.heap.size w w2) := HB.out.trans (hb2.mono HB.out.size)
        clear hb2
        go_wp2
        go_ret
        exact ⟨by rw [E.out]; rfl, HB2.out⟩
set_option maxRecDepth 100000 in
theorem mayInner_any {w : World} {v : Value} {n : Nd} {pi pk pd : Option Addr} {ci ck cd : Nat} (h : IsNd w v n pi ci pk ck pd cd) :
    Calls Try.prog 62 #[v] w fun e w' => e = .returned (.bool (mayIn n)) ∧ Below w.heap.size w w' := by
  have hv := h.val
  subst hv
  obtain ⟨W, hW⟩ : ∃ W, W = w.alloc (.cells #[.bool n.leaf, .slice pi n.its.length ci, .slice pk n.ks.length ck, .slice pd n.kids.length cd] 93) := ⟨_, rfl⟩
  have hb : Below w.heap.size w W := by rw [hW]; exact (Below.refl w.heap.size w).alloc (Nat.le_refl _) _
  have hcW : W.heap[w.heap.size]? = some (.cells #[.bool n.leaf, .slice pi n.its.length ci, .slice pk n.ks.length ck, .slice pd n.kids.length cd] 93 (0, 0)) := by rw [hW]; exact heap_alloc_new w _
  have hsz : w.heap.size < W.heap.size := by rw [hW]; simp
  have HW := Lib.hid hW; have HB := Lib.hid hb; have HCW := Lib.hid hcW; have HSZ := Lib.hid hsz
  have c0 := cells_of hcW 0; have c1 := cells_of hcW 1; have c2 := cells_of hcW 2; have c3 := cells_of hcW 3
  simp only [List.getElem?_toArray, List.getElem?_cons_zero, List.getElem?_cons_succ] at c0 c1 c2 c3
  have HC := Lib.hid (mayKeys_any pk ck n.ks _ (h.ks.below hb))
  have HD := Lib.hid (fun W' (hb2 : Below W.heap.size W W') => mayKids_any pd cd n.kids W' ((h.kids.below hb).below hb2))
  have HS := Lib.hid (fun W => soMany_any n.kids.length 2 W)
  have HE : Hid (mayIn n = innerOk n) := innerOk_eq n
  unfold innerOk at HE
  have HN : Hid (soMany 2 n.kids.length = decide (2 ≤ n.kids.length ∧ n.kids.length ≤ 8)) := rfl
  clear h hW hb hcW hsz
  cases h1 : ((n.its.length : Int) == 0) with
  | false =>
    have E : Hid (mayIn n = false) := by unfold Hid; rw [HE.out, decide_eq_false (by rw [beq_eq_false_iff_ne] at h1; omega)]; rfl
    go_enter Try.func62, Try.ntmps62
    go_wp2
    rw [← HW.out]
    go_ret
    exact ⟨by rw [E.out]; rfl, HB.out⟩
  | true =>
    cases h2 : ((n.ks.length : Int) == (n.kids.length : Int)) with
    | false =>
      have E : Hid (mayIn n = false) := by unfold Hid; rw [HE.out, decide_eq_false (show ¬ n.ks.length = n.kids.length by rw [beq_eq_false_iff_ne] at h2; omega)]; simp
      go_enter Try.func62, Try.ntmps62
      go_wp2
      rw [← HW.out]
      go_ret
      exact ⟨by rw [E.out]; rfl, HB.out⟩
    | true =>
      go_enter Try.func62, Try.ntmps62
      go_wp2_with fail
      rw [← HW.out]
      refine (HS.out _).mono ?_
      rintro e w1 ⟨rfl, rfl⟩
      cases h3 : soMany 2 n.kids.length with
      | false =>
        have E : Hid (mayIn n = false) := by unfold Hid; rw [HE.out, ← HN.out, h3]; simp
        go_wp2
        go_ret
        exact ⟨by rw [E.out]; rfl, HB.out⟩
      | true =>
        have E : Hid (mayIn n = (risesFrom [] n.ks && n.kids.all mayKd)) := by
          unfold Hid
          rw [HE.out, ← HN.out, h3, decide_eq_true (show n.its.length = 0 by rw [beq_iff_eq] at h1; omega), decide_eq_true (show n.ks.length = n.kids.length by rw [beq_iff_eq] at h2; omega)]
          rfl
        go_wp2_with fail
        refine HC.out.mono ?_
        rintro e w2 ⟨rfl, hb2⟩
        have HB2 : Hid (Below w.heap.size w w2) := HB.out.trans (hb2.mono HB.out.size)
        cases h4 : risesFrom [] n.ks with
        | false =>
          have E2 : Hid (mayIn n = false) := by unfold Hid; rw [E.out, h4]; rfl
          clear hb2
          go_wp2
          go_ret
          exact ⟨by rw [E2.out]; rfl, HB2.out⟩
        | true =>
          have E2 : Hid (mayIn n = n.kids.all mayKd) := by unfold Hid; rw [E.out, h4]; rfl
          have hc2 := (hb2.block _ HSZ.out).trans HCW.out
          clear c0 c1 c2 c3
          have c3 := cells_of hc2 3
          simp only [List.getElem?_toArray, List.getElem?_cons_zero, List.getElem?_cons_succ] at c3
          have HD2 := Lib.hid (HD.out _ hb2)
          clear hb2 hc2
          go_wp2_with fail
          refine HD2.out.mono ?_
          rintro e w3 ⟨rfl, hb3⟩
          have HB3 : Hid (Below w.heap.size w w3) := HB2.out.trans (hb3.mono HB2.out.size)
          clear hb3
          go_wp2
          go_ret
          exact ⟨by rw [E2.out]; rfl, HB3.out⟩
set_option maxRecDepth 100000 in
theorem may_any {w : World} {v : Value} {n : Nd} {pi pk pd : Option Addr} {ci ck cd : Nat} (h : IsNd w v n pi ci pk ck pd cd) :
    Calls Try.prog 36 #[v] w fun e w' => e = .returned (.bool (mayNd n)) ∧ Below w.heap.size w w' := by
  have hv := h.val
  have hb := (Below.refl w.heap.size w).alloc (Nat.le_refl _) (.cells #[.bool n.leaf, .slice pi n.its.length ci, .slice pk n.ks.length ck, .slice pd n.kids.length cd] 93)
  have HL := Lib.hid (mayLeaf_any (h.below hb))
  have HI := Lib.hid (mayInner_any (h.below hb))
  have HB := Lib.hid hb
  subst hv
  clear hb h
  have HE : Hid (mayNd n = if n.leaf = true then mayLf n else mayIn n) := rfl
  generalize n.leaf = lf at *
  cases lf with
  | true =>
    go_enter Try.func36, Try.ntmps36
    go_wp2_with fail
    refine HL.out.mono ?_
    rintro e w1 ⟨rfl, hb1⟩
    have HB1 : Hid (Below w.heap.size w w1) := HB.out.trans (hb1.mono HB.out.size)
    clear hb1
    go_wp2
    go_ret
    exact ⟨by rw [HE.out]; rfl, HB1.out⟩
  | false =>
    go_enter Try.func36, Try.ntmps36
    go_wp2_with fail
    refine HI.out.mono ?_
    rintro e w1 ⟨rfl, hb1⟩
    have HB1 : Hid (Below w.heap.size w w1) := HB.out.trans (hb1.mono HB.out.size)
    clear hb1
    go_wp2
    go_ret
    exact ⟨by rw [HE.out]; rfl, HB1.out⟩
end Go.Proofs.Ytajfcnaifegonaa.Sl.Nd
/- Nodes in a program: which are the same. -/
namespace Go.Proofs.Ytajfcnaifegonaa.Sl.Nd
open Go Go.RowKit Go.By
end Go.Proofs.Ytajfcnaifegonaa.Sl.Nd
/- Nodes in a program: which are the same, on. -/
namespace Go.Proofs.Ytajfcnaifegonaa.Sl.Nd
open Go Go.RowKit Go.By
end Go.Proofs.Ytajfcnaifegonaa.Sl.Nd
/- Nodes in a program: the same, light. -/
namespace Go.Proofs.Ytajfcnaifegonaa.Sl.Nd
open Go Go.RowKit Go.By
def NdAt (w : World) (g : Nat) (n : Nd) (pi : Option Addr) (ci : Nat) (pk : Option Addr) (ck : Nat) (pd : Option Addr) (cd : Nat) : Prop :=
  w.heap[g]? = some (.cells #[.bool n.leaf, .slice pi n.its.length ci, .slice pk n.ks.length ck, .slice pd n.kids.length cd] 93 (0, 0))
theorem NdAt.lt {w : World} {g : Nat} {n : Nd} {pi pk pd : Option Addr} {ci ck cd : Nat} (h : NdAt w g n pi ci pk ck pd cd) : g < w.heap.size := (Array.getElem?_eq_some_iff.1 h).1
theorem NdAt.below {w w' : World} {g : Nat} {n : Nd} {pi pk pd : Option Addr} {ci ck cd : Nat} (h : NdAt w g n pi ci pk ck pd cd) (hb : Below w.heap.size w w') : NdAt w' g n pi ci pk ck pd cd := (hb.block _ h.lt).trans h
theorem NdAt.cells {w : World} {g : Nat} {n : Nd} {pi pk pd : Option Addr} {ci ck cd : Nat} (h : NdAt w g n pi ci pk ck pd cd) : w.cell? ⟨g, 0, none⟩ = some (.bool n.leaf) ∧ w.cell? ⟨g, 1, none⟩ = some (.slice pi n.its.length ci) ∧ w.cell? ⟨g, 2, none⟩ = some (.slice pk n.ks.length ck) ∧ w.cell? ⟨g, 3, none⟩ = some (.slice pd n.kids.length cd) :=
  ⟨cells_of h 0, cells_of h 1, cells_of h 2, cells_of h 3⟩
theorem NdAt.new (w : World) (n : Nd) (pi : Option Addr) (ci : Nat) (pk : Option Addr) (ck : Nat) (pd : Option Addr) (cd : Nat) : NdAt (w.alloc (.cells #[.bool n.leaf, .slice pi n.its.length ci, .slice pk n.ks.length ck, .slice pd n.kids.length cd] 93)) w.heap.size n pi ci pk ck pd cd := heap_alloc_new w _
end Go.Proofs.Ytajfcnaifegonaa.Sl.Nd
/- Bytes compared: above; alike. -/
namespace Go.By
open Go Go.RowKit
theorem lessN_eq : ∀ {x y : List Nat}, lessN x y = false → lessN y x = false → x = y
  | [], [], _, _ => rfl
  | [], _ :: _, h, _ => by cases h
  | _ :: _, [], _, h => by cases h
  | a :: x, b :: y, h, k => by
    simp only [lessN, Bool.or_eq_false_iff, Bool.and_eq_false_iff, decide_eq_false_iff_not] at h k
    obtain rfl : a = b := by omega
    rw [lessN_eq (h.2.resolve_left (by simp)) (k.2.resolve_left (by simp))]
end Go.By
