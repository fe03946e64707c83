/- Roots as rows of bytes: which may be, what is put, what is taken. Plain. -/
import Derived.Test.YtkhpblclpcgjnaaNdP
namespace Go.By
open Go

structure Rt where
  gen : Nat
  nx : Int
  ts : List NKd
deriving DecidableEq

def mayRf (d : NKd) : Bool := decide (0 ≤ d.off) && decide (d.off = 0 ↔ d.ct = 0)
theorem mayRf_iff (d : NKd) : mayRf d = true ↔ 0 ≤ d.off ∧ (d.off = 0 ↔ d.ct = 0) := by simp [mayRf]
def mayRt (r : Rt) : Bool := decide (0 ≤ r.nx) && r.ts.all mayRf
theorem mayRt_iff (r : Rt) : mayRt r = true ↔ 0 ≤ r.nx ∧ ∀ d ∈ r.ts, mayRf d = true := by simp [mayRt]
def refOf (d : NKd) : List Nat := highOf d.off.toNat 8 ++ highOf d.ct 8
theorem refOf_length (d : NKd) : (refOf d).length = 16 := by simp [refOf, highOf_length]
def refsOf (ts : List NKd) : List Nat := ts.flatMap refOf
theorem refsOf_length (ts : List NKd) : (refsOf ts).length = 16 * ts.length := by
  induction ts with
  | nil => rfl
  | cons d ts ih =>
    unfold refsOf at ih ⊢
    rw [List.flatMap_cons, List.length_append, ih, refOf_length, List.length_cons]; omega
def rootOf (r : Rt) : List Nat := highOf r.nx.toNat 8 ++ refsOf r.ts
theorem rootOf_length (r : Rt) : (rootOf r).length = 8 + 16 * r.ts.length := by simp [rootOf, highOf_length, refsOf_length]
theorem refsOf_small (ts : List NKd) : ∀ c ∈ refsOf ts, c < 256 := by
  intro c hc
  obtain ⟨d, _, hc⟩ := List.mem_flatMap.1 hc
  rcases List.mem_append.1 hc with hc | hc
  · exact highOf_small _ _ c hc
  · exact highOf_small _ _ c hc
theorem rootOf_small (r : Rt) : ∀ c ∈ rootOf r, c < 256 := by
  intro c hc
  rcases List.mem_append.1 hc with hc | hc
  · exact highOf_small _ _ c hc
  · exact refsOf_small _ c hc
def putRt (r : Rt) : List Nat := if mayRt r = true then rootOf r else []
theorem putRt_small (r : Rt) : ∀ c ∈ putRt r, c < 256 := by
  unfold putRt
  split
  · exact rootOf_small r
  · intro c hc; cases hc

/-- A number of 64 bits with a sign, out of eight bytes. -/
def numS (l : List Nat) : Int := RowKit.wrap64 (numOf (l.take 8) : Nat)
theorem numS_high {n : Int} (h0 : 0 ≤ n) (h1 : n ≤ 9223372036854775807) (m : List Nat) : numS (highOf n.toNat 8 ++ m) = n := by
  unfold numS
  have := List.take_left (l₁ := highOf n.toNat 8) (l₂ := m)
  rw [highOf_length] at this
  rw [this, numOf_high 8 _ (by omega), wrap64_nat (by omega), Int.toNat_of_nonneg h0]
theorem high_numS {l : List Nat} (hl : ∀ c ∈ l, c < 256) (h8 : 8 ≤ l.length) (h0 : 0 ≤ numS l) : highOf (numS l).toNat 8 = l.take 8 ∧ numS l ≤ 9223372036854775807 := by
  have hs : ∀ c ∈ l.take 8, c < 256 := fun c hc => hl c (List.mem_of_mem_take hc)
  have hlen : (l.take 8).length = 8 := by rw [List.length_take]; omega
  have h1 := numOf_lt _ hs
  have h2 := high_numOf _ hs
  rw [hlen] at h1 h2
  have h1' : numOf (l.take 8) < 18446744073709551616 := h1
  have hw : numS l = numOf (l.take 8) := by unfold numS RowKit.wrap64 at h0 ⊢; omega
  have hb : numS l ≤ 9223372036854775807 := by unfold numS RowKit.wrap64 at h0 ⊢; omega
  exact ⟨by rw [hw, Int.toNat_natCast, h2], hb⟩
theorem high_num8 {l : List Nat} (hl : ∀ c ∈ l, c < 256) (h8 : 8 ≤ l.length) : highOf (numOf (l.take 8)) 8 = l.take 8 ∧ numOf (l.take 8) < 18446744073709551616 := by
  have hs : ∀ c ∈ l.take 8, c < 256 := fun c hc => hl c (List.mem_of_mem_take hc)
  have hlen : (l.take 8).length = 8 := by rw [List.length_take]; omega
  have h1 := numOf_lt _ hs
  have h2 := high_numOf _ hs
  rw [hlen] at h1 h2
  exact ⟨h2, h1⟩
def rdRef (l : List Nat) : NKd := ⟨numS l, numOf ((l.drop 8).take 8)⟩
def rdRefs : Nat → List Nat → List NKd
  | 0, _ => []
  | n + 1, l => rdRef l :: rdRefs n (l.drop 16)
theorem rdRefs_length : ∀ (n : Nat) (l : List Nat), (rdRefs n l).length = n
  | 0, _ => rfl
  | n + 1, l => by rw [rdRefs, List.length_cons, rdRefs_length n]
theorem rdRefs_at : ∀ {n : Nat} {l : List Nat} {i : Nat} (h : i < (rdRefs n l).length), (rdRefs n l)[i] = rdRef (l.drop (16 * i))
  | 0, _, i, h => absurd h (Nat.not_lt_zero _)
  | n + 1, l, 0, _ => by simp [rdRefs]
  | n + 1, l, i + 1, h => by
    simp only [rdRefs, List.getElem_cons_succ]
    rw [rdRefs_at (n := n) (l := l.drop 16) (i := i) (by simpa [rdRefs] using h), List.drop_drop]
    congr 2
    omega
/-- Trees as they come. -/
def RfFine (d : NKd) : Prop := d.off ≤ 9223372036854775807 ∧ d.ct < 18446744073709551616
theorem rdRef_of {d : NKd} (hd : RfFine d) (h0 : 0 ≤ d.off) (m : List Nat) : rdRef (refOf d ++ m) = d := by
  unfold rdRef refOf
  rw [List.append_assoc, numS_high h0 hd.1]
  have e1 := List.drop_left (l₁ := highOf d.off.toNat 8) (l₂ := highOf d.ct 8 ++ m)
  have e2 := List.take_left (l₁ := highOf d.ct 8) (l₂ := m)
  rw [highOf_length] at e1 e2
  rw [e1, e2, numOf_high 8 _ hd.2]
theorem rdRefs_of : ∀ {ts : List NKd}, (∀ d ∈ ts, RfFine d ∧ 0 ≤ d.off) → ∀ m, rdRefs ts.length (refsOf ts ++ m) = ts
  | [], _, _ => rfl
  | d :: ts, h, m => by
    have e : refsOf (d :: ts) ++ m = refOf d ++ (refsOf ts ++ m) := by simp [refsOf]
    rw [e, List.length_cons, rdRefs, rdRef_of (h d (by simp)).1 (h d (by simp)).2]
    have e1 := List.drop_left (l₁ := refOf d) (l₂ := refsOf ts ++ m)
    rw [refOf_length] at e1
    rw [e1, rdRefs_of (fun x hx => h x (by simp [hx])) m]
theorem refsOf_rd : ∀ {n : Nat} {l : List Nat}, (∀ c ∈ l, c < 256) → 16 * n ≤ l.length → (∀ d ∈ rdRefs n l, 0 ≤ d.off) → refsOf (rdRefs n l) = l.take (16 * n) ∧ ∀ d ∈ rdRefs n l, RfFine d
  | 0, l, _, _, _ => ⟨by simp [rdRefs, refsOf], fun d hd => by cases hd⟩
  | n + 1, l, hl, hn, h => by
    have h0 := h (rdRef l) (by simp [rdRefs])
    obtain ⟨a1, a2⟩ := high_numS hl (by omega) h0
    have hl8 : ∀ c ∈ l.drop 8, c < 256 := fun c hc => hl c (List.mem_of_mem_drop hc)
    have hl16 : ∀ c ∈ l.drop 16, c < 256 := fun c hc => hl c (List.mem_of_mem_drop hc)
    obtain ⟨b1, b2⟩ := high_num8 hl8 (by rw [List.length_drop]; omega)
    obtain ⟨i1, i2⟩ := refsOf_rd (n := n) hl16 (by rw [List.length_drop]; omega) (fun d hd => h d (by simp [rdRefs, hd]))
    refine ⟨?_, fun d hd => ?_⟩
    · show refOf (rdRef l) ++ refsOf (rdRefs n (l.drop 16)) = _
      rw [i1]
      unfold refOf rdRef
      dsimp only
      rw [a1, b1, show 16 * (n + 1) = 8 + (8 + 16 * n) by omega, List.take_add, List.take_add, List.drop_drop, List.append_assoc]
    · rw [rdRefs] at hd
      rcases List.mem_cons.1 hd with rfl | hd
      · exact ⟨a2, b2⟩
      · exact i2 d hd
def rdRt (gen : Nat) (l : List Nat) : Rt := ⟨gen, numS l, rdRefs 5 (l.drop 8)⟩
/-- The root that bytes are. -/
def takeRt (gen : Nat) (l : List Nat) : Option Rt := if l.length = 88 ∧ mayRt (rdRt gen l) = true then some (rdRt gen l) else none
structure RtFine (r : Rt) : Prop where
  nx : r.nx ≤ 9223372036854775807
  five : r.ts.length = 5
  ts : ∀ d ∈ r.ts, RfFine d
theorem takeRt_put {r : Rt} (hf : RtFine r) (hm : mayRt r = true) : takeRt r.gen (rootOf r) = some r := by
  obtain ⟨h0, h1⟩ := (mayRt_iff r).1 hm
  have e : rdRt r.gen (rootOf r) = r := by
    unfold rdRt rootOf
    rw [numS_high h0 hf.nx]
    have e1 := List.drop_left (l₁ := highOf r.nx.toNat 8) (l₂ := refsOf r.ts)
    rw [highOf_length] at e1
    rw [e1]
    have e2 := rdRefs_of (ts := r.ts) (fun d hd => ⟨hf.ts d hd, ((mayRf_iff d).1 (h1 d hd)).1⟩) []
    rw [List.append_nil, hf.five] at e2
    rw [e2]
  unfold takeRt
  rw [e, if_pos ⟨by rw [rootOf_length, hf.five], hm⟩]
/-- What is taken was put so; and the other way round. -/
theorem rd_may {gen : Nat} {l : List Nat} (hl : ∀ c ∈ l, c < 256) (h88 : l.length = 88) (hm : mayRt (rdRt gen l) = true) : rootOf (rdRt gen l) = l ∧ RtFine (rdRt gen l) := by
  obtain ⟨h0, h1⟩ := (mayRt_iff _).1 hm
  obtain ⟨a1, a2⟩ := high_numS hl (by omega) h0
  have hl8 : ∀ c ∈ l.drop 8, c < 256 := fun c hc => hl c (List.mem_of_mem_drop hc)
  obtain ⟨b1, b2⟩ := refsOf_rd (n := 5) hl8 (by rw [List.length_drop]; omega) (fun d hd => ((mayRf_iff d).1 (h1 d hd)).1)
  refine ⟨?_, a2, rdRefs_length _ _, b2⟩
  unfold rootOf rdRt
  dsimp only
  rw [a1, b1, List.take_of_length_le (l := l.drop 8) (by rw [List.length_drop]; omega), List.take_append_drop]
theorem takeRt_some {gen : Nat} {l : List Nat} {r : Rt} (hl : ∀ c ∈ l, c < 256) (h : takeRt gen l = some r) : l = rootOf r ∧ mayRt r = true ∧ RtFine r ∧ r.gen = gen := by
  unfold takeRt at h
  split at h
  · rename_i hc
    obtain ⟨e, hf⟩ := rd_may hl hc.1 hc.2
    have hr := Option.some.inj h
    rw [hr] at e hf hc
    exact ⟨e.symm, hc.2, hf, by rw [← hr]; rfl⟩
  · cases h
/-- As the document takes it: by putting it again. -/
theorem takeRt_iff {gen : Nat} {l : List Nat} (hl : ∀ c ∈ l, c < 256) (h88 : l.length = 88) : mayRt (rdRt gen l) = true ↔ putRt (rdRt gen l) = l := by
  constructor
  · intro hm
    unfold putRt
    rw [if_pos hm]
    exact (rd_may hl h88 hm).1
  · intro hp
    unfold putRt at hp
    split at hp
    · assumption
    · rw [← hp] at h88; cases h88
end Go.By

