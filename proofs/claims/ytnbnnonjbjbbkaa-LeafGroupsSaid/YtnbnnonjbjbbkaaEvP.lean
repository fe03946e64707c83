/- Events as rows of bytes: what is put, how it is read on. Plain. -/
import Derived.Test.YtnbnnonjbjbbkaaKeyP
namespace Go.By
open Go

/-- An event: its numbers, and its texts as bytes. -/
structure Ev where
  seq : Int
  ver : Int
  st : List Nat
  ty : List Nat
  da : List Nat
deriving DecidableEq

def mayEv (e : Ev) : Bool := decide (0 ≤ e.seq) && (decide (0 ≤ e.ver) && (mayNm e.st && (mayNm e.ty && decide (e.da.length ≤ 100))))
theorem mayEv_iff (e : Ev) : mayEv e = true ↔ 0 ≤ e.seq ∧ 0 ≤ e.ver ∧ mayNm e.st = true ∧ mayNm e.ty = true ∧ e.da.length ≤ 100 := by
  simp [mayEv]

/-- How many bytes, and they. -/
def txt (l : List Nat) : List Nat := l.length :: l
theorem txt_length (l : List Nat) : (txt l).length = l.length + 1 := rfl
def evOf (e : Ev) : List Nat := highOf e.seq.toNat 8 ++ (highOf e.ver.toNat 8 ++ (txt e.st ++ (txt e.ty ++ txt e.da)))
theorem evOf_length (e : Ev) : (evOf e).length = 19 + e.st.length + e.ty.length + e.da.length := by
  simp [evOf, highOf_length, txt]
  omega
/-- Events as they come: numbers of 64 bits, texts of bytes. -/
structure EvFine (e : Ev) : Prop where
  seq : e.seq ≤ 9223372036854775807
  ver : e.ver ≤ 9223372036854775807
  st : ∀ c ∈ e.st, c < 256
  ty : ∀ c ∈ e.ty, c < 256
  da : ∀ c ∈ e.da, c < 256
theorem evOf_small {e : Ev} (h : EvFine e) (hm : mayEv e = true) : ∀ c ∈ evOf e, c < 256 := by
  obtain ⟨_, _, h1, h2, h3⟩ := (mayEv_iff e).1 hm
  have hs := mayNm_length h1
  have ht := mayNm_length h2
  have txs : ∀ {l : List Nat}, (∀ c ∈ l, c < 256) → l.length < 256 → ∀ c ∈ txt l, c < 256 := fun hl hn c hc => by
    rcases List.mem_cons.1 hc with rfl | hc
    · exact hn
    · exact hl c hc
  intro c hc
  unfold evOf at hc
  simp only [List.mem_append] at hc
  rcases hc with hc | hc | hc | hc | hc
  · exact highOf_small _ _ c hc
  · exact highOf_small _ _ c hc
  · exact txs h.st (by omega) c hc
  · exact txs h.ty (by omega) c hc
  · exact txs h.da (by omega) c hc
/-- What Put answers. -/
def putEv (e : Ev) : List Nat := if mayEv e = true then evOf e else []

/-- Reading on: what is left; none: there was too little. -/
def rdTake (n : Nat) : Option (List Nat) → List Nat × Option (List Nat)
  | none => ([], none)
  | some l => if n ≤ l.length then (l.take n, some (l.drop n)) else ([], none)
theorem rdTake_app {a b : List Nat} : rdTake a.length (some (a ++ b)) = (a, some b) := by
  unfold rdTake
  dsimp only
  rw [if_pos (by rw [List.length_append]; omega), List.take_left, List.drop_left]
theorem rdTake_some {n : Nat} {s : Option (List Nat)} {a b : List Nat} (h : rdTake n s = (a, some b)) : s = some (a ++ b) ∧ a.length = n := by
  unfold rdTake at h
  cases s with
  | none => cases h
  | some l =>
    dsimp only at h
    split at h
    · rename_i hn
      simp only [Prod.mk.injEq, Option.some.injEq] at h
      obtain ⟨rfl, rfl⟩ := h
      exact ⟨by rw [List.take_append_drop], by rw [List.length_take]; omega⟩
    · cases h
def rdText (s : Option (List Nat)) : List Nat × Option (List Nat) := rdTake (numOf (rdTake 1 s).1) (rdTake 1 s).2
theorem numOf_one (c : Nat) : numOf [c] = c := by simp [numOf]
theorem rdText_app (a b : List Nat) : rdText (some (txt a ++ b)) = (a, some b) := by
  have h : rdTake 1 (some (txt a ++ b)) = ([a.length], some (a ++ b)) := rdTake_app (a := [a.length]) (b := a ++ b)
  unfold rdText
  rw [h, numOf_one]
  exact rdTake_app
theorem rdText_some {s : Option (List Nat)} {a b : List Nat} (h : rdText s = (a, some b)) : s = some (txt a ++ b) := by
  unfold rdText at h
  obtain ⟨h1, h2⟩ := rdTake_some h
  obtain ⟨h3, h4⟩ := rdTake_some (n := 1) (s := s) (a := (rdTake 1 s).1) (b := a ++ b) (by rw [← h1])
  match hx : (rdTake 1 s).1, h4 with
  | [c], _ =>
    rw [hx] at h3 h2
    rw [numOf_one] at h2
    rw [h3, txt, h2]
    rfl

/-- The parts of an event, as they are read one behind the other. -/
structure EvRd where
  a : List Nat
  b : List Nat
  c : List Nat
  d : List Nat
  e : List Nat
  s : Option (List Nat)
def rdEv (s : Option (List Nat)) : EvRd :=
  let r1 := rdTake 8 s
  let r2 := rdTake 8 r1.2
  let r3 := rdText r2.2
  let r4 := rdText r3.2
  let r5 := rdText r4.2
  ⟨r1.1, r2.1, r3.1, r4.1, r5.1, r5.2⟩
def evRd (r : EvRd) : Ev := ⟨RowKit.wrap64 (numOf r.a : Nat), RowKit.wrap64 (numOf r.b : Nat), r.c, r.d, r.e⟩
/-- The event that bytes are. -/
def takeEv (l : List Nat) : Option Ev := if (rdEv (some l)).s = some [] ∧ mayEv (evRd (rdEv (some l))) = true then some (evRd (rdEv (some l))) else none

theorem rdEv_app (e : Ev) (m : List Nat) : rdEv (some (evOf e ++ m)) = ⟨highOf e.seq.toNat 8, highOf e.ver.toNat 8, e.st, e.ty, e.da, some m⟩ := by
  have h1 : rdTake 8 (some (evOf e ++ m)) = (highOf e.seq.toNat 8, some (highOf e.ver.toNat 8 ++ (txt e.st ++ (txt e.ty ++ (txt e.da ++ m))))) := by
    have := rdTake_app (a := highOf e.seq.toNat 8) (b := highOf e.ver.toNat 8 ++ (txt e.st ++ (txt e.ty ++ (txt e.da ++ m))))
    rw [highOf_length] at this
    rw [← this]
    congr 2
    simp [evOf]
  have h2 : rdTake 8 (some (highOf e.ver.toNat 8 ++ (txt e.st ++ (txt e.ty ++ (txt e.da ++ m))))) = (highOf e.ver.toNat 8, some (txt e.st ++ (txt e.ty ++ (txt e.da ++ m)))) := by
    have := rdTake_app (a := highOf e.ver.toNat 8) (b := txt e.st ++ (txt e.ty ++ (txt e.da ++ m)))
    rw [highOf_length] at this
    exact this
  unfold rdEv
  simp only [h1, h2, rdText_app]

theorem wrap64_nat {n : Nat} (h : n ≤ 9223372036854775807) : RowKit.wrap64 (n : Nat) = n := by unfold RowKit.wrap64; omega
theorem evRd_of {e : Ev} (h : EvFine e) (hm : mayEv e = true) (m : Option (List Nat)) : evRd ⟨highOf e.seq.toNat 8, highOf e.ver.toNat 8, e.st, e.ty, e.da, m⟩ = e := by
  obtain ⟨h0, h1, _⟩ := (mayEv_iff e).1 hm
  have hs := h.seq
  have hv := h.ver
  unfold evRd
  dsimp only
  rw [numOf_high 8 _ (by omega), numOf_high 8 _ (by omega), wrap64_nat (by omega), wrap64_nat (by omega), Int.toNat_of_nonneg h0, Int.toNat_of_nonneg h1]
/-- What is put is taken. -/
theorem takeEv_put {e : Ev} (h : EvFine e) (hm : mayEv e = true) : takeEv (evOf e) = some e := by
  have := rdEv_app e []
  rw [List.append_nil] at this
  unfold takeEv
  rw [this, evRd_of h hm, if_pos ⟨rfl, hm⟩]
/-- With something behind, it is none. -/
theorem takeEv_more (e : Ev) {m : List Nat} (hm : m ≠ []) : takeEv (evOf e ++ m) = none := by
  unfold takeEv
  rw [rdEv_app, if_neg]
  rintro ⟨h, _⟩
  exact hm (Option.some.inj h)
/-- What is taken was put so. -/
theorem takeEv_some {l : List Nat} {e : Ev} (hl : ∀ c ∈ l, c < 256) (h : takeEv l = some e) : l = evOf e ∧ mayEv e = true ∧ EvFine e := by
  unfold takeEv at h
  split at h
  · rename_i hc
    obtain ⟨hs, hm⟩ := hc
    have he := Option.some.inj h
    have e5 : rdText (rdText (rdText (rdTake 8 (rdTake 8 (some l)).2).2).2).2 = ((rdEv (some l)).e, some []) := by
      rw [← hs]; rfl
    have h5 := rdText_some e5
    have h4 := rdText_some (s := (rdText (rdTake 8 (rdTake 8 (some l)).2).2).2) (a := (rdEv (some l)).d) (by rw [← h5]; rfl)
    have h3 := rdText_some (s := (rdTake 8 (rdTake 8 (some l)).2).2) (a := (rdEv (some l)).c) (by rw [← h4]; rfl)
    obtain ⟨h2, l2⟩ := rdTake_some (n := 8) (s := (rdTake 8 (some l)).2) (a := (rdEv (some l)).b) (by rw [← h3]; rfl)
    obtain ⟨h1, l1⟩ := rdTake_some (n := 8) (s := some l) (a := (rdEv (some l)).a) (by rw [← h2]; rfl)
    have hll := Option.some.inj h1
    have sm : ∀ {x : List Nat}, (∀ c ∈ x, c ∈ l) → ∀ c ∈ x, c < 256 := fun hx c hc => hl c (hx c hc)
    have m1 : ∀ c ∈ (rdEv (some l)).a, c ∈ l := fun c hc => by rw [hll]; simp [hc]
    have m2 : ∀ c ∈ (rdEv (some l)).b, c ∈ l := fun c hc => by rw [hll]; simp [hc]
    have m3 : ∀ c ∈ (rdEv (some l)).c, c ∈ l := fun c hc => by rw [hll]; simp [hc, txt]
    have m4 : ∀ c ∈ (rdEv (some l)).d, c ∈ l := fun c hc => by rw [hll]; simp [hc, txt]
    have m5 : ∀ c ∈ (rdEv (some l)).e, c ∈ l := fun c hc => by rw [hll]; simp [hc, txt]
    have n1 := numOf_lt _ (sm m1)
    have n2 := numOf_lt _ (sm m2)
    rw [l1] at n1
    rw [l2] at n2
    have hw : ∀ {n : Nat}, n < 256 ^ 8 → 0 ≤ RowKit.wrap64 (n : Nat) → RowKit.wrap64 (n : Nat) = n ∧ n ≤ 9223372036854775807 := fun {n} hn h0 => by
      have hn' : n < 18446744073709551616 := hn
      unfold RowKit.wrap64 at h0 ⊢
      omega
    obtain ⟨q1, q2, _⟩ := (mayEv_iff _).1 hm
    obtain ⟨w1, x1⟩ := hw n1 q1
    obtain ⟨w2, x2⟩ := hw n2 q2
    refine ⟨?_, by rw [← he]; exact hm, ?_⟩
    · have b1 := high_numOf _ (sm m1)
      have b2 := high_numOf _ (sm m2)
      rw [l1] at b1
      rw [l2] at b2
      rw [← he]
      unfold evOf evRd
      dsimp only
      rw [w1, w2, Int.toNat_natCast, Int.toNat_natCast, b1, b2]
      conv => lhs; rw [hll]
      simp
    · rw [← he]
      exact ⟨by show RowKit.wrap64 _ ≤ _; rw [w1]; omega, by show RowKit.wrap64 _ ≤ _; rw [w2]; omega, sm m3, sm m4, sm m5⟩
  · cases h
/-- Cut off, it is none. -/
theorem takeEv_cut {e : Ev} (h : EvFine e) (hm : mayEv e = true) {i : Nat} (hi : i < (evOf e).length) : takeEv ((evOf e).take i) = none := by
  cases ht : takeEv ((evOf e).take i) with
  | none => rfl
  | some f =>
    obtain ⟨h1, _, _⟩ := takeEv_some (fun c hc => evOf_small h hm c (List.mem_of_mem_take hc)) ht
    have h2 := takeEv_put h hm
    rw [← List.take_append_drop i (evOf e), h1, takeEv_more f (by
      intro h0
      have := congrArg List.length h0
      rw [List.length_drop] at this
      simp at this
      omega)] at h2
    cases h2
end Go.By

