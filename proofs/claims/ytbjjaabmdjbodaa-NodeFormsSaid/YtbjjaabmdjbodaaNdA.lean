/- Nodes in a program: bytes.Compare; which keys may follow. -/
import Derived.Test.YtbjjaabmdjbodaaNdO
import Derived.Test.YtbjjaabmdjbodaaGen
import Derived.Test.YtbjjaabmdjbodaaKeyP
import Derived.Lib.Bytealg
namespace Go.By
open Go Go.RowKit

def u8s (l : List Nat) : List UInt8 := l.map UInt8.ofNat
theorem u8s_nats {l : List Nat} (h : ∀ c ∈ l, c < 256) : (u8s l).map UInt8.toNat = l := by
  unfold u8s
  rw [List.map_map]
  conv => rhs; rw [← List.map_id l]
  apply List.map_congr_left
  intro c hc
  have := h c hc
  simp
  omega
def cmpN (l m : List Nat) : Int := Lib.compareBytes (u8s l) (u8s m)
theorem cmpB_less : ∀ (x y : List UInt8), decide (Lib.compareBytes x y < 0) = Op.bytesLess x y
  | [], [] => rfl
  | [], _ :: _ => rfl
  | _ :: _, [] => rfl
  | a :: x, b :: y => by
    have ih := cmpB_less x y
    rw [Op.bytesLess, Lib.compareBytes, ← ih]
    by_cases h1 : a < b
    · simp [h1]
    · by_cases h2 : b < a
      · have h3 : (a == b) = false := by
          rw [beq_eq_false_iff_ne]
          intro e
          subst e
          exact h1 h2
        simp [h1, h2, h3]
      · have h3 : a = b := by
          apply UInt8.toNat_inj.1
          rw [UInt8.lt_iff_toNat_lt] at h1 h2
          omega
        simp [h3]
theorem cmpN_less {l m : List Nat} (hl : ∀ c ∈ l, c < 256) (hm : ∀ c ∈ m, c < 256) : decide (cmpN l m < 0) = lessN l m := by
  unfold cmpN
  rw [cmpB_less, less_nats, u8s_nats hl, u8s_nats hm]

theorem load_list {P : Program} {w : World} {b : Nat} : ∀ {l : List Nat} {off : Nat} {acc : ByteArray}, (∀ i, i < l.length → w.cell? ⟨b, off + i, none⟩ = some (.int .u8 (atB l i : Nat))) →
    (Extern.Bytes.loadBytes ⟨b, off, none⟩ l.length acc).run P w = .ok ⟨acc.data ++ (u8s l).toArray⟩ w
  | [], off, acc, _ => by
    simp [Extern.Bytes.loadBytes, u8s]
  | c :: l, off, acc, h => by
    have h0 := h 0 (by simp)
    rw [Nat.add_zero] at h0
    have ih := load_list (P := P) (w := w) (b := b) (l := l) (off := off + 1) (acc := acc.push (UInt8.ofNat c)) (fun i hi => by
      have := h (i + 1) (by simp; omega)
      rw [show off + 1 + i = off + (i + 1) by omega, this]
      simp [atB])
    rw [List.length_cons]
    unfold Extern.Bytes.loadBytes
    rw [Sem.run_bind, run_load]
    simp only [h0, Result.andThen_ok, Addr.add_lit]
    have e : (atB (c :: l) 0) = c := by simp [atB]
    rw [e]
    have e2 : (Int.toNat (c : Int)).toUInt8 = UInt8.ofNat c := by rw [Int.toNat_natCast]
    rw [e2, ih]
    congr 1
    simp [u8s, ByteArray.push]
theorem bytesOf_run {P : Program} {w : World} {v : Value} {l : List Nat} (h : Bytes w v l) : (Extern.Bytes.bytesOf v).run P w = .ok ⟨(u8s l).toArray⟩ w := by
  rcases h.out with ⟨rfl, rfl⟩ | ⟨a, rfl, rfl⟩ | ⟨b, off, cap, rfl, _, hc⟩
  · rfl
  · rfl
  · show (Extern.Bytes.loadBytes ⟨b, off, none⟩ l.length .empty).run P w = _
    rw [load_list hc]
    congr 2
    exact Array.empty_append
theorem compare_run {P : Program} {w : World} {v u : Value} {l m : List Nat} (h : Bytes w v l) (k : Bytes w u m) : (Extern.BytealgCompare.compare #[v, u]).run P w = .ok (.int .i64 (cmpN l m)) w := by
  change Sem.run P (do pure (goInt (Extern.BytealgCompare.cmp (← Extern.Bytes.bytesOf v) (← Extern.Bytes.bytesOf u)))) w = _
  simp only [Sem.run_bind, bytesOf_run h, bytesOf_run k, Sem.run_pure, Result.andThen]
  rw [Lib.cmp_eq]
  rfl

def follows (l m : List Nat) : Bool := decide (m.length ≤ 40) && lessN l m
def risesFrom (l : List Nat) : List (List Nat) → Bool
  | [] => true
  | k :: r => follows l k && risesFrom k r
def itsFrom (l : List Nat) : List NIt → Bool
  | [] => true
  | i :: r => (follows l i.k && decide (i.v.length ≤ 120)) && itsFrom i.k r
theorem lessN_pos {l m : List Nat} (h : lessN l m = true) : 1 ≤ m.length := by
  cases m with
  | nil => rw [lessN_nil_right] at h; cases h
  | cons _ _ => simp
theorem lessN_nil {m : List Nat} : lessN [] m = decide (1 ≤ m.length) := by
  cases m with
  | nil => rfl
  | cons _ _ => simp [lessN]
theorem risesFrom_eq : ∀ (l : List Nat) (ks : List (List Nat)), risesFrom l ks = (ks.all mayK && (risesN ks && (ks.head?.all (lessN l))))
  | l, [] => rfl
  | l, [k] => by
    unfold risesFrom risesFrom follows mayK risesN
    cases h : lessN l k with
    | false => simp [h]
    | true =>
      have := lessN_pos h
      simp [h]
      cases k with
      | nil => simp at this
      | cons _ _ => simp
  | l, k :: j :: r => by
    rw [risesFrom, risesFrom_eq k (j :: r)]
    generalize hA : (j :: r).all mayK = A
    generalize hB : risesN (j :: r) = B
    have e1 : (k :: j :: r).all mayK = (mayK k && A) := by rw [← hA]; rfl
    have e2 : risesN (k :: j :: r) = (lessN k j && B) := by rw [← hB]; rfl
    rw [e1, e2]
    unfold follows mayK
    rw [List.head?_cons, List.head?_cons, Option.all_some, Option.all_some]
    cases h : lessN l k with
    | false => simp
    | true =>
      rw [decide_eq_true (lessN_pos h)]
      cases decide (k.length ≤ 40) <;> cases A <;> cases B <;> cases lessN k j <;> rfl
theorem risesFrom_nil (ks : List (List Nat)) : risesFrom [] ks = (ks.all mayK && risesN ks) := by
  rw [risesFrom_eq]
  cases ks with
  | nil => rfl
  | cons k r =>
    rw [List.head?_cons, Option.all_some, lessN_nil, List.all_cons, mayK]
    cases decide (1 ≤ k.length) <;> simp
theorem itsFrom_eq : ∀ (l : List Nat) (is : List NIt), itsFrom l is = (is.all (fun i => decide (i.v.length ≤ 120)) && risesFrom l (is.map (·.k)))
  | l, [] => rfl
  | l, i :: r => by
    rw [itsFrom, itsFrom_eq i.k r, List.map_cons, risesFrom, List.all_cons]
    cases follows l i.k <;> cases decide (i.v.length ≤ 120) <;> simp
theorem itsFrom_nil (is : List NIt) : itsFrom [] is = (is.all mayIt && risesN (is.map (·.k))) := by
  rw [itsFrom_eq, risesFrom_nil]
  have e : is.all mayIt = (is.all (fun i => decide (i.v.length ≤ 120)) && (is.map (·.k)).all mayK) := by
    induction is with
    | nil => rfl
    | cons i r ih =>
      rw [List.all_cons, ih, List.all_cons, List.map_cons, List.all_cons, mayIt]
      cases mayK i.k <;> cases decide (i.v.length ≤ 120) <;> simp
  rw [e, Bool.and_assoc]
end Go.By
namespace Go.Proofs.Ytbjjaabmdjbodaa
open Go Go.RowKit Go.By

set_option maxRecDepth 100000 in
theorem compare_any (v u : Value) (l m : List Nat) (w : World) (hv : Bytes w v l) (hu : Bytes w u m) :
    Calls Try.prog 40 #[v, u] w fun e w' => e = .returned (.int .i64 (cmpN l m)) ∧ w' = w := by
  have hx := run_callFunc_extern Try.func41 (by kernel_rfl) (by kernel_rfl) (by kernel_rfl) (show Extern.find Try.f41 = some Extern.BytealgCompare.compare by kernel_rfl) #[v, u] w
  rw [compare_run hv hu] at hx
  clear hv hu
  generalize cmpN l m = x at *
  go_enter Try.func40, Try.ntmps40
  go_wp2
  go_ret
  exact ⟨rfl, rfl⟩

set_option maxRecDepth 100000 in
theorem mayFollow_any (v u : Value) (l m : List Nat) (w : World) (hv : Bytes w v l) (hu : Bytes w u m) :
    Calls Try.prog 37 #[v, u] w fun e w' => e = .returned (.bool (follows l m)) ∧ w' = w := by
  have HC := Lib.hid (compare_any v u l m w hv hu)
  have hE : follows l m = (decide (m.length ≤ 40) && decide (cmpN l m < 0)) := by unfold follows; rw [cmpN_less hv.small hu.small]
  obtain ⟨q, cq, rfl, _⟩ := hu.any
  have HE := Lib.hid hE
  clear hv hu hE
  generalize cmpN l m = x at *
  by_cases h1 : (m.length : Int) ≤ 40
  · have E : Hid (follows l m = decide (x < 0)) := by unfold Hid; rw [HE.out, decide_eq_true (show m.length ≤ 40 by omega)]; rfl
    generalize m.length = L at *
    go_enter Try.func37, Try.ntmps37
    go_wp2_with fail
    refine HC.out.mono ?_
    rintro e w1 ⟨rfl, rfl⟩
    go_wp2
    go_ret
    exact ⟨by rw [E.out]; rfl, rfl⟩
  · have E : Hid (follows l m = false) := by unfold Hid; rw [HE.out, decide_eq_false (show ¬ m.length ≤ 40 by omega)]; rfl
    generalize m.length = L at *
    go_enter Try.func37, Try.ntmps37
    go_wp2
    go_ret
    exact ⟨by rw [E.out]; rfl, rfl⟩

def soMany (f n : Nat) : Bool := decide (f ≤ n ∧ n ≤ 8)
set_option maxRecDepth 100000 in
theorem soMany_any (n f : Nat) (w : World) :
    Calls Try.prog 29 #[.int .i64 n, .int .i64 f] w fun e w' => e = .returned (.bool (soMany f n)) ∧ w' = w := by
  by_cases h1 : (f : Int) ≤ n
  · have E : Hid (soMany f n = decide ((n : Int) ≤ 8)) := by unfold Hid soMany; exact decide_eq_decide.2 (by omega)
    go_enter Try.func29, Try.ntmps29
    go_wp2
    go_ret
    exact ⟨by rw [E.out]; rfl, rfl⟩
  · have E : Hid (soMany f n = false) := by unfold Hid soMany; exact decide_eq_false (by omega)
    go_enter Try.func29, Try.ntmps29
    go_wp2
    go_ret
    exact ⟨by rw [E.out]; rfl, rfl⟩
end Go.Proofs.Ytbjjaabmdjbodaa

