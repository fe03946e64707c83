/- slot: a slot is put. -/
import Derived.Test.YtldkeelgnfegeaaGreatMSlD
import Derived.Lib.BufferWrite

namespace Go.Proofs.YtldkeelgnfegeaaGreat.Sl
open Go Go.RowKit Go.By

theorem Filled.splice {w0 w : World} {L X : List Nat} (h : Filled w0 w L) {i : Nat} (_hX : i + X.length ≤ L.length) :
    Filled w0 (w.setRow w0.heap.size ((cellsOf L).take i ++ cellsOf X ++ (cellsOf L).drop (i + X.length)).toArray) (splice L i X) := by
  refine ⟨?_, below_setRow h.2 (Nat.le_refl _) _⟩
  rw [setRow_heap w w0.heap.size _ _ 5 _ h.1]
  congr 2
  simp [Go.splice, cellsOf]
/-- copy(s, x), s a piece of the row that is filled: bytes, a string. -/
theorem run_fill (dT sT ty : TypeId) (hu : Tryz.prog.underlying dT = some (.slice 5)) {w0 w : World} {L X : List Nat} (off dCap n : Nat) (sv : Value) (hn : X.length = n) (hF : Filled w0 w L) (hX : Bytes w sv X) (hfit : off + X.length ≤ L.length) :
    ∃ w', (Builtin.copy_ #[dT, sT] ty #[.slice (some ⟨w0.heap.size, off, none⟩) n dCap, sv]).run Tryz.prog w = .ok (.int .i64 n) w' ∧ Filled w0 w' (splice L off X) := by
  subst hn
  have hsz : (Tryz.prog.info? 5).map (·.size) = some 1 := by kernel_rfl
  have hnil : splice L off [] = L := by simp [Go.splice]
  rcases hX.out with ⟨h1, rfl⟩ | ⟨ad, h1, rfl⟩ | ⟨b, so, cap, h1, _, hc⟩
  · subst h1
    exact ⟨w, run_copy_none (P := Tryz.prog) w dT sT ty 5 _ _ _ _ _ _ hu hsz (by simp), by rw [hnil]; exact hF⟩
  · subst h1
    exact ⟨w, run_copy_none (P := Tryz.prog) w dT sT ty 5 _ _ _ _ _ _ hu hsz (by simp), by rw [hnil]; exact hF⟩
  · subst h1
    have hrun := run_copy_row (P := Tryz.prog) w dT sT ty 5 w0.heap.size off X.length dCap ⟨b, so, none⟩ X.length cap (cellsOf L).toArray 5 (cellsOf X) hu hsz hF.1 (by rw [cellsOf_length]; simp) (fun j v hv => by
      obtain ⟨hj, rfl⟩ := cellsOf_at hv
      rw [Addr.add_lit]; exact hc j hj) (by simp [cellsOf_length]; exact hfit) (cellsOf_one _)
    rw [cellsOf_length] at hrun
    exact ⟨_, hrun, hF.splice hfit⟩
theorem run_fill_string (dT sT ty : TypeId) (hu : Tryz.prog.underlying dT = some (.slice 5)) {w0 w : World} {L : List Nat} (X : List Nat) (off dCap n : Nat) (t : ByteArray) (hn : X.length = n) (ht : Lib.byteCells t.data.toList = cellsOf X) (hF : Filled w0 w L) (hfit : off + X.length ≤ L.length) :
    ∃ w', (Builtin.copy_ #[dT, sT] ty #[.slice (some ⟨w0.heap.size, off, none⟩) n dCap, .string t]).run Tryz.prog w = .ok (.int .i64 n) w' ∧ Filled w0 w' (splice L off X) := by
  subst hn
  have hsz : (Tryz.prog.info? 5).map (·.size) = some 1 := by kernel_rfl
  have hlen : t.size = X.length := by
    have := congrArg List.length ht
    rw [Lib.byteCells_length, cellsOf_length, ← Lib.size_eq] at this
    exact this
  have hrun := Lib.run_copy_row_string (P := Tryz.prog) w dT sT ty 5 w0.heap.size off X.length dCap t (cellsOf L).toArray 5 hu hsz hF.1 (by omega) (by simp [cellsOf_length]; omega)
  rw [ht, hlen] at hrun
  exact ⟨_, hrun, hF.splice hfit⟩

/-- make(sector, n). -/
theorem madeSec_run (m : Nat) (M : Int) (hM : M = m) (hc : m < 1099511627776) (w : World) : (Instr.makeSlice 134 (.int .i64 M) (.int .i64 M)).run Tryz.prog w = .ok (.slice (some ⟨w.heap.size, 0, none⟩) m m) (w.alloc (.cells (zeros m) 5)) := by
  subst hM
  obtain ⟨i, hi, hz, hz1, hz2⟩ := info_parts byT.info
  have h := run_make (P := Tryz.prog) (w := w) 134 5 i (.int .u8 0) secT.slice hi hz .i64 .i64 (m : Int) (m : Int) (by omega) (by omega) (by rw [hz2]; omega) (by omega)
  rw [h]
  have e : madeCells (Value.int .u8 0).cells ((m : Int).toNat * i.size) = zeros m := by
    rw [hz1]
    apply Array.toList_inj.1
    apply List.ext_getElem
    · simp [madeCells, cellsOf, zeros]
    · intro j h1 h2
      simp [madeCells, cellsOf, zeros, Value.cells, Nat.mod_one]
  rw [e]; simp

/-- How a sector is filled. -/
def fill0 : List Nat := List.replicate 128 0
def fill1 : List Nat := Go.splice fill0 0 [80, 68]
def fill2 (g : Nat) : List Nat := Go.splice fill1 2 (highOf g 8)
def fill3 (g : Nat) (b : List Nat) : List Nat := Go.splice (fill2 g) 10 (highOf b.length 1)
def fill4 (g : Nat) (b : List Nat) : List Nat := Go.splice (fill3 g b) 11 b
def fill5 (g : Nat) (b : List Nat) : List Nat := Go.splice (fill4 g b) 124 (highOf (Crc.sum (slotHead g b)) 4)
theorem rep_split {n a b : Nat} (h : n = a + b) : List.replicate n 0 = List.replicate a 0 ++ List.replicate b 0 := by rw [h, List.replicate_append_replicate]
theorem fill0_length : fill0.length = 128 := List.length_replicate
theorem fill1_length : fill1.length = 128 := by rw [fill1, splice_length (by rw [fill0_length]; simp), fill0_length]
theorem fill2_length (g : Nat) : (fill2 g).length = 128 := by rw [fill2, splice_length (by rw [fill1_length, highOf_length]; omega), fill1_length]
theorem fill3_length (g : Nat) (b : List Nat) : (fill3 g b).length = 128 := by rw [fill3, splice_length (by rw [fill2_length, highOf_length]; omega), fill2_length]
theorem fill4_length (g : Nat) {b : List Nat} (h : b.length ≤ 113) : (fill4 g b).length = 128 := by rw [fill4, splice_length (by rw [fill3_length]; omega), fill3_length]
theorem fill_two (g : Nat) : fill2 g = [80, 68] ++ (highOf g 8 ++ List.replicate 118 0) := by
  have h1 : fill1 = [80, 68] ++ List.replicate 126 0 := by
    rw [fill1, fill0, rep_split (show 128 = 2 + 126 from rfl)]
    exact splice_mid (A := []) rfl rfl
  rw [fill2, h1, rep_split (show 126 = 8 + 118 from rfl)]
  exact splice_mid rfl (by rw [highOf_length]; rfl)
theorem fill_three (g : Nat) {b : List Nat} (h : b.length ≤ 113) : fill3 g b = ([80, 68] ++ highOf g 8) ++ ([b.length] ++ List.replicate 117 0) := by
  have e : highOf b.length 1 = [b.length] := by simp [highOf]; omega
  rw [fill3, fill_two, rep_split (show 118 = 1 + 117 from rfl), ← List.append_assoc, e]
  exact splice_mid (by rw [List.length_append, highOf_length]; rfl) rfl
theorem fill_four (g : Nat) {b : List Nat} (h : b.length ≤ 113) : fill4 g b = slotHead g b ++ List.replicate 4 0 := by
  have e : splice (([80, 68] ++ highOf g 8 ++ [b.length]) ++ (List.replicate b.length 0 ++ List.replicate (117 - b.length) 0)) 11 b = ([80, 68] ++ highOf g 8 ++ [b.length]) ++ (b ++ List.replicate (117 - b.length) 0) :=
    splice_mid (by rw [List.length_append, List.length_append, highOf_length]; rfl) List.length_replicate
  rw [fill4, fill_three g h, ← List.append_assoc, rep_split (show 117 = b.length + (117 - b.length) by omega), e, rep_split (show 117 - b.length = (113 - b.length) + 4 by omega), slotHead]
  simp only [List.append_assoc, List.cons_append, List.nil_append]
theorem fill_five (g : Nat) {b : List Nat} (h : b.length ≤ 113) : fill5 g b = slotOf g b := by
  have e : splice (slotHead g b ++ (List.replicate 4 0 ++ [])) 124 (highOf (Crc.sum (slotHead g b)) 4) = slotHead g b ++ (highOf (Crc.sum (slotHead g b)) 4 ++ []) := splice_mid (slotHead_length h) (by rw [highOf_length]; rfl)
  rw [List.append_nil, List.append_nil] at e
  rw [fill5, fill_four g h, e, slotOf]
theorem fill_size (g : Nat) {b : List Nat} (h : b.length ≤ 113) : slotSize (fill3 g b) = b.length := by
  unfold slotSize
  rw [fill_three g h, List.singleton_append]
  exact at_mid (by rw [List.length_append, highOf_length]; rfl)
theorem fill_head (g : Nat) {b : List Nat} (h : b.length ≤ 113) : (fill4 g b).take 124 = slotHead g b := by
  rw [fill_four g h, List.take_append, slotHead_length h]
  simp [List.take_of_length_le, slotHead_length h]
theorem fill_small (g : Nat) {b : List Nat} (h : b.length ≤ 113) (hb : ∀ c ∈ b, c < 256) : (∀ c ∈ fill3 g b, c < 256) ∧ ∀ c ∈ fill4 g b, c < 256 := by
  constructor
  · intro c hc
    rw [fill_three g h] at hc
    simp only [List.mem_append, List.mem_cons, List.mem_replicate, List.not_mem_nil, or_false] at hc
    rcases hc with ((rfl | rfl) | hc) | rfl | ⟨_, rfl⟩
    · omega
    · omega
    · exact highOf_small _ _ c hc
    · omega
    · omega
  · intro c hc
    rw [fill_four g h] at hc
    simp only [List.mem_append, List.mem_replicate] at hc
    rcases hc with hc | ⟨_, rfl⟩
    · exact slotHead_small h hb c hc
    · omega
theorem Filled.sec {w0 w : World} {L : List Nat} (h : Filled w0 w L) (hl : L.length = 128) (hs : ∀ c ∈ L, c < 256) : Sec w w0.heap.size 0 128 L := by
  refine ⟨?_, hl⟩
  have := Bytes.of_owns (h.owns (by rw [hl]; decide)) hs (by rw [hl]; decide)
  rw [hl] at this
  exact this

theorem put_long (g : Nat) (v : Value) (l : List Nat) (w : World) (hv : Bytes w v l) (hl : 113 < l.length) :
    Calls Tryz.prog 62 #[.int .u64 g, v] w fun e w' => e = .returned (.tuple #[.slice none 0 0, .int .i64 4]) ∧ w = w' := by
  obtain ⟨p, cap, rfl, _⟩ := hv.any
  have hm := hv.short
  unfold maxLen at hm
  clear hv
  go_enter Tryz.func62, Tryz.ntmps62
  go_wp2
  go_ret2
  exact ⟨rfl, rfl⟩

end Go.Proofs.YtldkeelgnfegeaaGreat.Sl

/- slot: a slot is put. -/
namespace Go.Proofs.YtldkeelgnfegeaaGreat.Sl
open Go Go.RowKit Go.By

theorem filled_new (w : World) : Filled w (w.alloc (.cells (zeros 128) 5)) fill0 := ⟨heap_alloc_new w _, (Below.refl _ _).alloc (Nat.le_refl _) _⟩

set_option maxRecDepth 100000 in
theorem put_any (g : Nat) (v : Value) (l : List Nat) (w : World) (hg : g < 18446744073709551616) (hv : Bytes w v l) (hl : l.length ≤ 113) :
    Calls Tryz.prog 62 #[.int .u64 g, v] w fun e w' => e = .returned (.tuple #[.slice (some ⟨w.heap.size, 0, none⟩) 128 128, .int .i64 0]) ∧ Filled w w' (slotOf g l) := by
  obtain ⟨p, cap, rfl, _⟩ := hv.any
  have HV := Lib.hid hv; clear hv
  have hmk := madeSec_run 128 128 rfl (by omega)
  go_enter Tryz.func62, Tryz.ntmps62
  go_wp2_with fail
  clear hmk
  have HF0 := Lib.hid (filled_new w)
  generalize w.alloc (.cells (zeros 128) 5) = w1 at *
  refine (letters_any w.heap.size 0 128 w1 (by omega)).mono ?_
  rintro e w2 ⟨rfl, rfl⟩
  obtain ⟨w2, hrun, hF1⟩ := run_fill_string 23 9 3 byT.slice [80, 68] 0 128 2 ⟨#[80, 68]⟩ rfl rfl HF0.out (by rw [fill0_length]; decide)
  have HF1 : Hid (Filled w w2 fill1) := hF1
  clear hF1 HF0
  go_wp2_with fail
  clear hrun
  refine (gen_any w.heap.size 0 128 w2 (by omega)).mono ?_
  rintro e w3 ⟨rfl, rfl⟩
  go_wp2_with fail
  refine (putNumber_any w w2 fill1 2 8 126 g HF1.out (by rw [fill1_length]; omega) (by omega) hg).mono ?_
  rintro e w3 ⟨rfl, hF2⟩
  have HF2 : Hid (Filled w w3 (fill2 g)) := hF2
  clear hF2 HF1
  go_wp2_with fail
  refine (size_any w.heap.size 0 128 w3 (by omega)).mono ?_
  rintro e w4 ⟨rfl, rfl⟩
  have hw64 := wrap_u64_in (l.length : Int) (by omega) (by omega)
  go_wp2_with fail
  refine (putNumber_any w w3 (fill2 g) 10 1 118 l.length HF2.out (by rw [fill2_length]; omega) (by omega) (by omega)).mono ?_
  rintro e w4 ⟨rfl, hF3⟩
  have HF3 : Hid (Filled w w4 (fill3 g l)) := hF3
  clear hF3 HF2 hw64
  have hbody := body_any w.heap.size 0 128 (fill3 g l) w4 (HF3.out.sec (fill3_length g l) (fill_small g hl HV.out.small).1) (by rw [fill_size g hl]; exact hl)
  rw [fill_size g hl] at hbody
  have HBODY := Lib.hid hbody; clear hbody
  go_wp2_with fail
  refine HBODY.out.mono ?_
  rintro e w5 ⟨rfl, rfl⟩
  obtain ⟨w5, hrun, hF4⟩ := run_fill 23 23 3 byT.slice 11 117 l.length (.slice p l.length cap) rfl HF3.out (HV.out.below HF3.out.2) (by rw [fill3_length]; omega)
  have HF4 : Hid (Filled w w5 (fill4 g l)) := hF4
  clear hF4 HF3 HBODY
  go_wp2_with fail
  clear hrun
  refine (sumPart_any w.heap.size 0 128 w5 (by omega)).mono ?_
  rintro e w6 ⟨rfl, rfl⟩
  have hsec := HF4.out.sec (fill4_length g hl) (fill_small g hl HV.out.small).2
  have hah := ahead_any w.heap.size 0 128 (fill4 g l) w5 hsec.2 hsec.1
  rw [fill_head g hl] at hah
  have HAH := Lib.hid hah
  have HCS : Hid (Crc.sum (slotHead g l) < 18446744073709551616) := by
    have := Crc.sum_lt _ (slotHead_small (g := g) hl HV.out.small)
    unfold Hid; omega
  clear hsec hah
  go_wp2_with fail
  refine HAH.out.mono ?_
  rintro e w6 ⟨rfl, hb6⟩
  have hF6 : Filled w w6 (fill4 g l) := ⟨(hb6.block _ (Array.getElem?_eq_some_iff.1 HF4.out.1).1).trans HF4.out.1, HF4.out.2.trans (hb6.mono (by have := (Array.getElem?_eq_some_iff.1 HF4.out.1).1; omega))⟩
  have HF6 := Lib.hid hF6
  clear hF6 hb6 HAH HF4
  go_wp2_with fail
  refine (putNumber_any w w6 (fill4 g l) 124 4 4 _ HF6.out (by rw [fill4_length g hl]; omega) (by omega) HCS.out).mono ?_
  rintro e w7 ⟨rfl, hF7⟩
  have hF8 : Filled w w7 (slotOf g l) := by rw [← fill_five g hl]; exact hF7
  have HF8 := Lib.hid hF8
  clear hF7 hF8 HF6
  go_wp2
  go_ret2
  exact ⟨rfl, HF8.out⟩
end Go.Proofs.YtldkeelgnfegeaaGreat.Sl
