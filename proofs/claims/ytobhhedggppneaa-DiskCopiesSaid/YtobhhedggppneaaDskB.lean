/- The disk: an operation begins. -/
import Derived.Test.YtobhhedggppneaaDskA
import Derived.Handy
import Derived.BigQuiet
import Derived.Deep.QuietTactic
namespace Go.Proofs.Ytobhhedggppneaa
open Go Go.RowKit Go.By

theorem cells_of {w : World} {a : Nat} {c : Array Value} {t : TypeId} {fr : Nat × Nat} (h : w.heap[a]? = some (.cells c t fr)) (i : Nat) : w.cell? ⟨a, i, none⟩ = c[i]? := cell_of_row w a i c t fr h
theorem free_of {w : World} {a : Nat} {c : Array Value} {t : TypeId} (h : w.heap[a]? = some (.cells c t (0, 0))) (i : Nat) : w.frozen? ⟨a, i, none⟩ = false := frozen_of_row w a i c t h

theorem set_heap {w : World} {a : Nat} {c : Array Value} {t : TypeId} (h : w.heap[a]? = some (.cells c t (0, 0))) (i : Nat) (v : Value) :
    (w.setCell ⟨a, i, none⟩ v).heap[a]? = some (.cells (c.setIfInBounds i v) t (0, 0)) ∧ ∀ k, k ≠ a → (w.setCell ⟨a, i, none⟩ v).heap[k]? = w.heap[k]? :=
  ⟨heap_setCell_same w a i c t v h, fun k hk => heap_setCell_other w ⟨a, i, none⟩ k v (fun e => hk e)⟩

/-- The disk's block is turned, its parts stay. -/
theorem DiskIs.turn {w w' : World} {own : Own} {a : Nat} {D D' : DiskA} (h : DiskIs w own a D) (hk : ∀ k, k ≠ a → w'.heap[k]? = w.heap[k]?) (hs : w.heap.size ≤ w'.heap.size)
    (ho : ∀ ms mk mf lv, w.heap[a]? = some (.cells #[.int .i64 D.room, .int .i64 D.used, .int .i64 D.ops, .int .i64 D.left, ms, mk, lv, .int .i64 D.made, mf] 58 (0, 0)) → Parts w own ms mk mf lv D →
      ∃ ms mk mf lv, w'.heap[a]? = some (.cells #[.int .i64 D'.room, .int .i64 D'.used, .int .i64 D'.ops, .int .i64 D'.left, ms, mk, lv, .int .i64 D'.made, mf] 58 (0, 0)) ∧ Parts w own ms mk mf lv D') : DiskIs w' own a D' := by
  obtain ⟨⟨ms, mk, mf, lv, h1, h2⟩, hr, hon, hh⟩ := h
  obtain ⟨ms', mk', mf', lv', g1, g2⟩ := ho ms mk mf lv h1 h2
  refine ⟨⟨ms', mk', mf', lv', g1, g2.stay ⟨fun _ _ h => h, fun k r hkr hne => hk k ?_⟩⟩, hr, hon, fun k r h => Nat.lt_of_lt_of_le (hh k r h) hs⟩
  rintro rfl
  rw [hr] at hkr; cases hkr; exact hne rfl

def DiskA.begin (D : DiskA) (may : Bool) : DiskA × Int :=
  if D.left = 1 then ({ D with ops := D.ops + 1, left := 0 }, 5)
  else ({ D with ops := D.ops + 1, left := D.left - 1 }, if may then 0 else 1)

theorem parts_numbers {w : World} {own : Own} {ms mk mf lv : Value} {D D' : DiskA} (h : Parts w own ms mk mf lv D) (h1 : D'.seen = D.seen) (h2 : D'.kept = D.kept) (h3 : D'.laid = D.laid) (h4 : D'.fm = D.fm) (h5 : D'.cont = D.cont) : Parts w own ms mk mf lv D' where
  seen := by rw [h1]; exact h.seen
  kept := by rw [h2]; exact h.kept
  laid := by rw [h3]; exact h.laid
  laidR := h.laidR
  files := by rw [h4]; exact h.files
  each := by rw [h4, h5]; exact h.each
  bare := by rw [h1, h3, h4]; exact h.bare
  full := h.full
  bareL := by rw [h3]; exact h.bareL

def diskCells (D : DiskA) (ms mk lv mf : Value) : Array Value := #[.int .i64 D.room, .int .i64 D.used, .int .i64 D.ops, .int .i64 D.left, ms, mk, lv, .int .i64 D.made, mf]
/-- One of the disk's cells is set. -/
theorem DiskIs.set {w : World} {own : Own} {a : Nat} {D D' : DiskA} (h : DiskIs w own a D) (i : Nat) (v : Value)
    (hc : ∀ ms mk mf lv, w.heap[a]? = some (.cells (diskCells D ms mk lv mf) 58 (0, 0)) → Parts w own ms mk mf lv D → ∃ ms' mk' mf' lv', (diskCells D ms mk lv mf).setIfInBounds i v = diskCells D' ms' mk' lv' mf' ∧ Parts w own ms' mk' mf' lv' D') :
    DiskIs (w.setCell ⟨a, i, none⟩ v) own a D' ∧ Steps own own w (w.setCell ⟨a, i, none⟩ v) := by
  obtain ⟨ms0, mk0, mf0, lv0, h1, _⟩ := h.out
  have s1 := set_heap h1 i v
  refine ⟨h.turn s1.2 (by simp) fun ms mk mf lv q1 q2 => ?_, ?_⟩
  · obtain ⟨ms', mk', mf', lv', e, q3⟩ := hc ms mk mf lv q1 q2
    refine ⟨ms', mk', mf', lv', ?_, q3⟩
    have := (set_heap q1 i v).1
    rw [this]
    exact congrArg some (congrArg (fun x => Obj.cells x 58 (0, 0)) e)
  · exact ⟨rfl, rfl, rfl, by simp, fun k _ hn => s1.2 k (by rintro rfl; rw [h.role] at hn; simp at hn), fun _ _ => rfl⟩
theorem DiskIs.setOps {w : World} {own : Own} {a : Nat} {D : DiskA} (h : DiskIs w own a D) (n : Nat) :
    DiskIs (w.setCell ⟨a, 2, none⟩ (.int .i64 n)) own a { D with ops := n } ∧ Steps own own w (w.setCell ⟨a, 2, none⟩ (.int .i64 n)) :=
  h.set 2 _ fun ms mk mf lv _ q => ⟨ms, mk, mf, lv, rfl, parts_numbers q rfl rfl rfl rfl rfl⟩
theorem DiskIs.setLeft {w : World} {own : Own} {a : Nat} {D : DiskA} (h : DiskIs w own a D) (n : Nat) :
    DiskIs (w.setCell ⟨a, 3, none⟩ (.int .i64 n)) own a { D with left := n } ∧ Steps own own w (w.setCell ⟨a, 3, none⟩ (.int .i64 n)) :=
  h.set 3 _ fun ms mk mf lv _ q => ⟨ms, mk, mf, lv, rfl, parts_numbers q rfl rfl rfl rfl rfl⟩
theorem DiskIs.setUsed {w : World} {own : Own} {a : Nat} {D : DiskA} (h : DiskIs w own a D) (n : Int) :
    DiskIs (w.setCell ⟨a, 1, none⟩ (.int .i64 n)) own a { D with used := n } ∧ Steps own own w (w.setCell ⟨a, 1, none⟩ (.int .i64 n)) :=
  h.set 1 _ fun ms mk mf lv _ q => ⟨ms, mk, mf, lv, rfl, parts_numbers q rfl rfl rfl rfl rfl⟩
theorem DiskIs.setMade {w : World} {own : Own} {a : Nat} {D : DiskA} (h : DiskIs w own a D) (n : Nat) :
    DiskIs (w.setCell ⟨a, 7, none⟩ (.int .i64 n)) own a { D with made := n } ∧ Steps own own w (w.setCell ⟨a, 7, none⟩ (.int .i64 n)) :=
  h.set 7 _ fun ms mk mf lv _ q => ⟨ms, mk, mf, lv, rfl, parts_numbers q rfl rfl rfl rfl rfl⟩

set_option maxRecDepth 100000 in
theorem begin_any (own : Own) (a : Nat) (D : DiskA) (may : Bool) (w : World) (h : DiskIs w own a D) (ho : D.ops < 4611686018427387904) (hl : D.left < 4611686018427387904) :
    Calls Try.prog 22 #[.pointer (some ⟨a, 0, none⟩), .bool may] w fun e w' => e = .returned (.int .i64 (D.begin may).2) ∧ DiskIs w' own a (D.begin may).1 ∧ Steps own own w w' := by
  obtain ⟨ms, mk, mf, lv, h1, h2⟩ := h.out
  have g2 : w.cell? ⟨a, 2, none⟩ = some (.int .i64 D.ops) := cells_of h1 2
  have g3 : w.cell? ⟨a, 3, none⟩ = some (.int .i64 D.left) := cells_of h1 3
  have f := free_of h1
  have s1 := h.setOps (D.ops + 1)
  have s2 := s1.1.setLeft (D.left - 1)
  have S1 := Lib.hid s1
  have S2 := Lib.hid s2
  clear s1 s2 h h1 h2
  by_cases h0 : D.left = 0
  · have E : Hid (D.begin may = ({ D with ops := D.ops + 1 }, if may then 0 else 1)) := by
      unfold Hid DiskA.begin; rw [if_neg (by omega)]; simp [h0]
    have l0 : ¬ 0 < (D.left : Int) := by omega
    clear h0
    cases may
    all_goals
      go_enter Try.func22, Try.ntmps22
      go_wp2
      go_ret
      rw [E.out]
      exact ⟨rfl, S1.out.1, S1.out.2⟩
  · by_cases h1 : D.left = 1
    · have E : Hid (D.begin may = ({ D with ops := D.ops + 1, left := 0 }, 5)) := by
        unfold Hid DiskA.begin; rw [if_pos h1]
      have l0 : 0 < (D.left : Int) := by omega
      have l1 : (D.left : Int) - 1 = 0 := by omega
      have l2 : D.left - 1 = 0 := by omega
      rw [l2] at S2
      clear h0 h1 l2
      go_enter Try.func22, Try.ntmps22
      go_wp2
      go_ret
      rw [E.out]
      exact ⟨rfl, S2.out.1, S1.out.2.trans S2.out.2⟩
    · have E : Hid (D.begin may = ({ D with ops := D.ops + 1, left := D.left - 1 }, if may then 0 else 1)) := by
        unfold Hid DiskA.begin; rw [if_neg h1]
      have l0 : 0 < (D.left : Int) := by omega
      have l1 : (D.left : Int) - 1 = ((D.left - 1 : Nat) : Int) := by omega
      have l3 : ¬ ((D.left - 1 : Nat) : Int) = 0 := by omega
      generalize D.left - 1 = L at *
      clear h0 h1
      cases may
      all_goals
        go_enter Try.func22, Try.ntmps22
        go_wp2
        go_ret
        rw [E.out]
        exact ⟨rfl, S2.out.1, S1.out.2.trans S2.out.2⟩

def mayName (s : ByteArray) : Bool := decide (1 ≤ s.size) && decide (s.size ≤ 16)
def mayNumber (n : Int) : Bool := decide (0 ≤ n) && decide (n ≤ 16777216)

set_option maxRecDepth 100000 in
theorem mayName_any (s : ByteArray) (w : World) (hs : s.size ≤ maxLen) : Calls Try.prog 23 #[.string s] w fun e w' => e = .returned (.bool (mayName s)) ∧ w = w' := by
  unfold maxLen at hs
  by_cases h1 : 1 ≤ (s.size : Int)
  · by_cases h2 : (s.size : Int) ≤ 16
    · have E : Hid (mayName s = true) := by unfold Hid mayName; simp; omega
      go_enter Try.func23, Try.ntmps23
      go_wp2
      go_ret
      exact ⟨by rw [E.out]; rfl, rfl⟩
    · have E : Hid (mayName s = false) := by unfold Hid mayName; simp; omega
      have d : decide ((s.size : Int) ≤ 16) = false := by simpa using h2
      go_enter Try.func23, Try.ntmps23
      go_wp2
      go_ret
      exact ⟨by rw [E.out]; rfl, rfl⟩
  · have E : Hid (mayName s = false) := by unfold Hid mayName; simp; omega
    have d : decide (1 ≤ (s.size : Int)) = false := by simpa using h1
    go_enter Try.func23, Try.ntmps23
    go_wp2
    go_ret
    exact ⟨by rw [E.out]; rfl, rfl⟩

set_option maxRecDepth 100000 in
theorem mayNumber_any (n : Int) (w : World) : Calls Try.prog 28 #[.int .i64 n] w fun e w' => e = .returned (.bool (mayNumber n)) ∧ w = w' := by
  by_cases h1 : 0 ≤ n
  · by_cases h2 : n ≤ 16777216
    · have E : Hid (mayNumber n = true) := by unfold Hid mayNumber; simp; omega
      go_enter Try.func28, Try.ntmps28
      go_wp2
      go_ret
      exact ⟨by rw [E.out]; rfl, rfl⟩
    · have E : Hid (mayNumber n = false) := by unfold Hid mayNumber; simp; omega
      have d : decide (n ≤ 16777216) = false := by simpa using h2
      go_enter Try.func28, Try.ntmps28
      go_wp2
      go_ret
      exact ⟨by rw [E.out]; rfl, rfl⟩
  · have E : Hid (mayNumber n = false) := by unfold Hid mayNumber; simp; omega
    have d : decide (0 ≤ n) = false := by simpa using h1
    go_enter Try.func28, Try.ntmps28
    go_wp2
    go_ret
    exact ⟨by rw [E.out]; rfl, rfl⟩
end Go.Proofs.Ytobhhedggppneaa
