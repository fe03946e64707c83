/- The disk: made; how long a file is; how many operations; Fail. -/
import Derived.Test.YtajfcnaifegonaaMDskC
import Derived.WalkLawsBesides
namespace Go.Proofs.Ytajfcnaifegonaa
open Go Go.RowKit Go.By
def DiskA.new (room : Int) : DiskA := { room := if room < 0 then 0 else room, used := 0, ops := 0, left := 0, made := 0, seen := [], kept := [], laid := [], fm := [], cont := fun _ => ⟨[], [], []⟩ }
theorem DiskA.new_ok (room : Int) : (DiskA.new room).Ok := ⟨fun s n h => (by cases h), fun s n h => (by cases h), fun s n h => (by cases h), fun n h => (by cases h)⟩
theorem DiskIs.new (w : World) (room : Int) :
    DiskIs (w.alloc (.cells (diskCells (DiskA.new room) (.map none) (.map none) (.slice none 0 0) (.map none)) 72)) (fun k => if k = w.heap.size then some .disk else none) w.heap.size (DiskA.new room) where
  out := by
    refine ⟨.map none, .map none, .map none, .slice none 0 0, heap_alloc_new w _, ⟨.inl ⟨rfl, rfl⟩, .inl ⟨rfl, rfl⟩, World.ownsRow_nil _ _ _ _, fun k hk => (by cases hk), .inl ⟨rfl, rfl⟩, fun n fb hn => (by cases hn), fun _ => ⟨rfl, rfl, rfl⟩, fun hn => absurd rfl hn, fun _ => rfl⟩⟩
  role := if_pos rfl
  only := by
    intro k hk
    by_cases h : k = w.heap.size
    · exact h
    · simp [h] at hk
  here := by
    intro k r hk
    by_cases h : k = w.heap.size
    · subst h; simp
    · simp [h] at hk
set_option maxRecDepth 100000 in
theorem new_any (room : Int) (w : World) : Calls Try.prog 15 #[.int .i64 room] w fun e w' => e = .returned (.pointer (some ⟨w.heap.size, 0, none⟩)) ∧
    DiskIs w' (fun k => if k = w.heap.size then some .disk else none) w.heap.size (DiskA.new room) ∧ Below w.heap.size w w' := by
  have hn := DiskIs.new w room
  have HN := Lib.hid hn; clear hn
  by_cases h : room < 0
  · have hr : (DiskA.new room).room = 0 := by simp [DiskA.new, h]
    unfold diskCells at HN
    rw [hr] at HN
    clear hr
    go_enter Try.func15, Try.ntmps15
    go_wp2
    go_ret
    exact ⟨rfl, HN.out, (Below.refl _ _).alloc (Nat.le_refl _) _⟩
  · have hr : (DiskA.new room).room = room := by simp [DiskA.new, h]
    unfold diskCells at HN
    rw [hr] at HN
    have h0 : 0 ≤ room := by omega
    clear hr
    go_enter Try.func15, Try.ntmps15
    go_wp2
    go_ret
    exact ⟨rfl, HN.out, (Below.refl _ _).alloc (Nat.le_refl _) _⟩
def DiskA.size (D : DiskA) (s : ByteArray) : Option Nat := (Mp.get D.seen s).map fun n => (D.cont n).seen.length
def sizeV : Option Nat → Value
  | some n => .tuple #[.int .i64 n, .bool true]
  | none => .tuple #[.int .i64 0, .bool false]
set_option maxRecDepth 100000 in
theorem size_any (own : Own) (a : Nat) (D : DiskA) (s : ByteArray) (w : World) (h : DiskIs w own a D) (hk : D.Ok) :
    Calls Try.prog 26 #[.pointer (some ⟨a, 0, none⟩), .string s] w fun e w' => e = .returned (sizeV (D.size s)) ∧ w = w' := by
  obtain ⟨ms, mk, mf, lv, h1, h2⟩ := h.out
  have l1 := (h2.seen.look strK namesT (zeroInt w) s).1
  have g4 : w.cell? ⟨a, 4, none⟩ = some ms := cells_of h1 4
  have g8 : w.cell? ⟨a, 8, none⟩ = some mf := cells_of h1 8
  unfold strV at l1
  cases hg : Mp.get D.seen s with
  | none =>
    rw [hg] at l1
    simp only [Option.map_none, Option.getD_none, Option.isSome_none] at l1
    have E : Hid (D.size s = none) := by unfold Hid DiskA.size; rw [hg]; rfl
    clear h h1 h2 hg hk
    go_enter Try.func26, Try.ntmps26
    go_wp2
    go_ret2
    exact ⟨by rw [E.out]; rfl, rfl⟩
  | some n =>
    rw [hg] at l1
    simp only [Option.map_some, Option.getD_some, Option.isSome_some, natV] at l1
    obtain ⟨fb, hfb⟩ := Option.isSome_iff_exists.1 (hk.seenIn s n hg)
    have l2 := (h2.files.look natK filesT (zeroFile w) n).2
    rw [hfb] at l2
    simp only [Option.map_some, Option.getD_some, natV, ptrV] at l2
    obtain ⟨⟨sv, kv, lv', cs, f1, f2, _⟩, _⟩ := h2.each n fb hfb
    have gf : w.cell? ⟨fb, 0, none⟩ = some sv := cells_of f1 0
    have E : Hid (D.size s = some (D.cont n).seen.length) := by unfold Hid DiskA.size; rw [hg]; rfl
    obtain ⟨p, cap, rfl⟩ : ∃ p cap, sv = .slice p (D.cont n).seen.length cap := by
      rcases f2.owns.2 with ⟨hv, hl⟩ | ⟨g, cap, _, hv, _⟩
      · exact ⟨none, 0, by rw [hv, hl]⟩
      · exact ⟨_, cap, hv⟩
    clear h h1 h2 hg hk hfb f1 f2
    go_enter Try.func26, Try.ntmps26
    go_wp2
    go_ret2
    exact ⟨by rw [E.out]; rfl, rfl⟩
end Go.Proofs.Ytajfcnaifegonaa
