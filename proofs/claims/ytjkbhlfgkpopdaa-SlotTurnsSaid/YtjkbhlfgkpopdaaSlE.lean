/- slot: a slot is put. -/
import Derived.Test.YtjkbhlfgkpopdaaSlD
import Derived.Lib.BufferWrite
namespace Go.Proofs.Ytjkbhlfgkpopdaa
open Go Go.RowKit Go.By

theorem Filled.splice {w0 w : World} {L X : List Nat} (h : Filled w0 w L) {i : Nat} (hX : i + X.length ≤ L.length) :
    Filled w0 (w.setRow w0.heap.size ((cellsOf L).take i ++ cellsOf X ++ (cellsOf L).drop (i + X.length)).toArray) (splice L i X) := by
  refine ⟨?_, below_setRow h.2 (Nat.le_refl _) _⟩
  rw [setRow_heap w w0.heap.size _ _ 5 _ h.1]
  congr 2
  simp [Go.splice, cellsOf]
/-- copy(s, x), s a piece of the row that is filled: bytes, a string. -/
theorem run_fill (dT sT ty : TypeId) (hu : Try.prog.underlying dT = some (.slice 5)) {w0 w : World} {L X : List Nat} (off dCap n : Nat) (sv : Value) (hn : X.length = n) (hF : Filled w0 w L) (hX : Bytes w sv X) (hfit : off + X.length ≤ L.length) :
    ∃ w', (Builtin.copy_ #[dT, sT] ty #[.slice (some ⟨w0.heap.size, off, none⟩) n dCap, sv]).run Try.prog w = .ok (.int .i64 n) w' ∧ Filled w0 w' (splice L off X) := by
  subst hn
  have hsz : (Try.prog.info? 5).map (·.size) = some 1 := by kernel_rfl
  have hnil : splice L off [] = L := by simp [Go.splice]
  rcases hX.out with ⟨h1, rfl⟩ | ⟨ad, h1, rfl⟩ | ⟨b, so, cap, h1, _, hc⟩
  · subst h1
    exact ⟨w, run_copy_none (P := Try.prog) w dT sT ty 5 _ _ _ _ _ _ hu hsz (by simp), by rw [hnil]; exact hF⟩
  · subst h1
    exact ⟨w, run_copy_none (P := Try.prog) w dT sT ty 5 _ _ _ _ _ _ hu hsz (by simp), by rw [hnil]; exact hF⟩
  · subst h1
    have hrun := run_copy_row (P := Try.prog) w dT sT ty 5 w0.heap.size off X.length dCap ⟨b, so, none⟩ X.length cap (cellsOf L).toArray 5 (cellsOf X) hu hsz hF.1 (by rw [cellsOf_length]; simp) (fun j v hv => by
      obtain ⟨hj, rfl⟩ := cellsOf_at hv
      rw [Addr.add_lit]; exact hc j hj) (by simp [cellsOf_length]; exact hfit) (cellsOf_one _)
    rw [cellsOf_length] at hrun
    exact ⟨_, hrun, hF.splice hfit⟩
theorem run_fill_string (dT sT ty : TypeId) (hu : Try.prog.underlying dT = some (.slice 5)) {w0 w : World} {L : List Nat} (X : List Nat) (off dCap n : Nat) (t : ByteArray) (hn : X.length = n) (ht : Lib.byteCells t.data.toList = cellsOf X) (hF : Filled w0 w L) (hfit : off + X.length ≤ L.length) :
    ∃ w', (Builtin.copy_ #[dT, sT] ty #[.slice (some ⟨w0.heap.size, off, none⟩) n dCap, .string t]).run Try.prog w = .ok (.int .i64 n) w' ∧ Filled w0 w' (splice L off X) := by
  subst hn
  have hsz : (Try.prog.info? 5).map (·.size) = some 1 := by kernel_rfl
  have hlen : t.size = X.length := by
    have := congrArg List.length ht
    rw [Lib.byteCells_length, cellsOf_length, ← Lib.size_eq] at this
    exact this
  have hrun := Lib.run_copy_row_string (P := Try.prog) w dT sT ty 5 w0.heap.size off X.length dCap t (cellsOf L).toArray 5 hu hsz hF.1 (by omega) (by simp [cellsOf_length]; omega)
  rw [ht, hlen] at hrun
  exact ⟨_, hrun, hF.splice hfit⟩

/-- make(sector, n). -/
theorem madeSec_run (m : Nat) (M : Int) (hM : M = m) (hc : m < 1099511627776) (w : World) : (Instr.makeSlice 38 (.int .i64 M) (.int .i64 M)).run Try.prog w = .ok (.slice (some ⟨w.heap.size, 0, none⟩) m m) (w.alloc (.cells (zeros m) 5)) := by
  subst hM
  obtain ⟨i, hi, hz, hz1, hz2⟩ := info_parts byT.info
  have h := run_make (P := Try.prog) (w := w) 38 5 i (.int .u8 0) secT.slice hi hz .i64 .i64 (m : Int) (m : Int) (by omega) (by omega) (by rw [hz2]; omega) (by omega)
  rw [h]
  have e : madeCells (Value.int .u8 0).cells ((m : Int).toNat * i.size) = zeros m := by
    rw [hz1]
    apply Array.toList_inj.1
    apply List.ext_getElem
    · simp [madeCells, cellsOf, zeros]
    · intro j h1 h2
      simp [madeCells, cellsOf, zeros, Value.cells, Nat.mod_one]
  rw [e]; simp

/-- How a sector is filled. -/
def fill0 : List Nat := List.replicate 128 0
def fill1 : List Nat := Go.splice fill0 0 [80, 68]
def fill2 (g : Nat) : List Nat := Go.splice fill1 2 (highOf g 8)
def fill3 (g : Nat) (b : List Nat) : List Nat := Go.splice (fill2 g) 10 (highOf b.length 1)
def fill4 (g : Nat) (b : List Nat) : List Nat := Go.splice (fill3 g b) 11 b
def fill5 (g : Nat) (b : List Nat) : List Nat := Go.splice (fill4 g b) 124 (highOf (Crc.sum (slotHead g b)) 4)
theorem rep_split {n a b : Nat} (h : n = a + b) : List.replicate n 0 = List.replicate a 0 ++ List.replicate b 0 := by rw [h, List.replicate_append_replicate]
theorem fill0_length : fill0.length = 128 := List.length_replicate
theorem fill1_length : fill1.length = 128 := by rw [fill1, splice_length (by rw [fill0_length]; simp), fill0_length]
theorem fill2_length (g : Nat) : (fill2 g).length = 128 := by rw [fill2, splice_length (by rw [fill1_length, highOf_length]; omega), fill1_length]
theorem fill3_length (g : Nat) (b : List Nat) : (fill3 g b).length = 128 := by rw [fill3, splice_length (by rw [fill2_length, highOf_length]; omega), fill2_length]
theorem fill4_length (g : Nat) {b : List Nat} (h : b.length ≤ 113) : (fill4 g b).length = 128 := by rw [fill4, splice_length (by rw [fill3_length]; omega), fill3_length]
theorem fill_two (g : Nat) : fill2 g = [80, 68] ++ (highOf g 8 ++ List.replicate 118 0) := by
  have h1 : fill1 = [80, 68] ++ List.replicate 126 0 := by
    rw [fill1, fill0, rep_split (show 128 = 2 + 126 from rfl)]
    exact splice_mid (A := []) rfl rfl
  rw [fill2, h1, rep_split (show 126 = 8 + 118 from rfl)]
  exact splice_mid rfl (by rw [highOf_length]; rfl)
theorem fill_three (g : Nat) {b : List Nat} (h : b.length ≤ 113) : fill3 g b = ([80, 68] ++ highOf g 8) ++ ([b.length] ++ List.replicate 117 0) := by
  have e : highOf b.length 1 = [b.length] := by simp [highOf]; omega
  rw [fill3, fill_two, rep_split (show 118 = 1 + 117 from rfl), ← List.append_assoc, e]
  exact splice_mid (by rw [List.length_append, highOf_length]; rfl) rfl
theorem fill_four (g : Nat) {b : List Nat} (h : b.length ≤ 113) : fill4 g b = slotHead g b ++ List.replicate 4 0 := by
  have e : splice (([80, 68] ++ highOf g 8 ++ [b.length]) ++ (List.replicate b.length 0 ++ List.replicate (117 - b.length) 0)) 11 b = ([80, 68] ++ highOf g 8 ++ [b.length]) ++ (b ++ List.replicate (117 - b.length) 0) :=
    splice_mid (by rw [List.length_append, List.length_append, highOf_length]; rfl) List.length_replicate
  rw [fill4, fill_three g h, ← List.append_assoc, rep_split (show 117 = b.length + (117 - b.length) by omega), e, rep_split (show 117 - b.length = (113 - b.length) + 4 by omega), slotHead]
  simp only [List.append_assoc, List.cons_append, List.nil_append]
theorem fill_five (g : Nat) {b : List Nat} (h : b.length ≤ 113) : fill5 g b = slotOf g b := by
  have e : splice (slotHead g b ++ (List.replicate 4 0 ++ [])) 124 (highOf (Crc.sum (slotHead g b)) 4) = slotHead g b ++ (highOf (Crc.sum (slotHead g b)) 4 ++ []) := splice_mid (slotHead_length h) (by rw [highOf_length]; rfl)
  rw [List.append_nil, List.append_nil] at e
  rw [fill5, fill_four g h, e, slotOf]
theorem fill_size (g : Nat) {b : List Nat} (h : b.length ≤ 113) : slotSize (fill3 g b) = b.length := by
  unfold slotSize
  rw [fill_three g h, List.singleton_append]
  exact at_mid (by rw [List.length_append, highOf_length]; rfl)
theorem fill_head (g : Nat) {b : List Nat} (h : b.length ≤ 113) : (fill4 g b).take 124 = slotHead g b := by
  rw [fill_four g h, List.take_append, slotHead_length h]
  simp [List.take_of_length_le, slotHead_length h]
theorem fill_small (g : Nat) {b : List Nat} (h : b.length ≤ 113) (hb : ∀ c ∈ b, c < 256) : (∀ c ∈ fill3 g b, c < 256) ∧ ∀ c ∈ fill4 g b, c < 256 := by
  constructor
  · intro c hc
    rw [fill_three g h] at hc
    simp only [List.mem_append, List.mem_cons, List.mem_replicate, List.not_mem_nil, or_false] at hc
    rcases hc with ((rfl | rfl) | hc) | rfl | ⟨_, rfl⟩
    · omega
    · omega
    · exact highOf_small _ _ c hc
    · omega
    · omega
  · intro c hc
    rw [fill_four g h] at hc
    simp only [List.mem_append, List.mem_replicate] at hc
    rcases hc with hc | ⟨_, rfl⟩
    · exact slotHead_small h hb c hc
    · omega
theorem Filled.sec {w0 w : World} {L : List Nat} (h : Filled w0 w L) (hl : L.length = 128) (hs : ∀ c ∈ L, c < 256) : Sec w w0.heap.size 0 128 L := by
  refine ⟨?_, hl⟩
  have := Bytes.of_owns (h.owns (by rw [hl]; decide)) hs (by rw [hl]; decide)
  rw [hl] at this
  exact this

theorem put_long (g : Nat) (v : Value) (l : List Nat) (w : World) (hv : Bytes w v l) (hl : 113 < l.length) :
    Calls Try.prog 8 #[.int .u64 g, v] w fun e w' => e = .returned (.tuple #[.slice none 0 0, .int .i64 4]) ∧ w = w' := by
  obtain ⟨p, cap, rfl, _⟩ := hv.any
  have hm := hv.short
  unfold maxLen at hm
  clear hv
  go_enter Try.func8, Try.ntmps8
  go_wp2
  go_ret2
  exact ⟨rfl, rfl⟩

end Go.Proofs.Ytjkbhlfgkpopdaa
