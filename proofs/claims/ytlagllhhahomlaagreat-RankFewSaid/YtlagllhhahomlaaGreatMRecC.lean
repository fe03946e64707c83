/- Sum: walks: the sum. -/
import Derived.Test.YtlagllhhahomlaaGreatMSumC
import Derived.Test.YtlagllhhahomlaaGreatMSlA
import Derived.Test.YtlagllhhahomlaaGreatMDskA
import Derived.Handy
namespace Go.Proofs.YtlagllhhahomlaaGreat
open Go.RowKit Go.By
theorem zero33 (w : World) : (zeroValue 219).run Tryz.prog w = .ok (.agg (Array.replicate 256 (.int .u32 0))) w := by kernel_rfl
theorem Tab.start (w : World) (Z : Array Value) (hz : Z = Array.replicate 256 (.int .u32 0)) :
    (∀ i : Nat, i < 256 → ∃ v, (w.alloc (.cells Z 219)).cell? ⟨w.heap.size, i, none⟩ = some v) ∧ (∀ i : Nat, i < 256 → (w.alloc (.cells Z 219)).frozen? ⟨w.heap.size, i, none⟩ = false) ∧
    (w.alloc (.cells Z 219)).cell? ⟨w.heap.size, 0, none⟩ = some (.int .u32 0) := by
  refine ⟨fun i hi => ⟨.int .u32 0, ?_⟩, fun i _ => World.frozen?_alloc_new w Z 219 i, ?_⟩
  · rw [World.cell?_alloc_new, hz]; simp [hi]
  · rw [World.cell?_alloc_new, hz]; simp
set_option maxRecDepth 100000 in
theorem sum_any (v : Value) (l : List Nat) (w : World) (hv : Bytes w v l) :
    Calls Tryz.prog 99 #[v] w fun e w' => e = .returned (.int .u32 (Crc.sum l : Nat)) ∧ Below w.heap.size w w' := by
  obtain ⟨p, cap, rfl, hc⟩ := hv.any
  have hs := hv.small
  have hm := hv.short
  clear hv
  unfold maxLen at hm
  have HC := Lib.hid hc; clear hc
  have HS := Lib.hid hs; clear hs
  have hz := zero33
  obtain ⟨Z, hZ⟩ : ∃ Z, Z = Array.replicate 256 (Value.int .u32 0) := ⟨_, rfl⟩
  rw [← hZ] at hz
  have HZ := Lib.hid hZ; clear hZ
  go_enter Tryz.func99, Tryz.ntmps99
  go_wp2_with fail
  refine (fill_any w.heap.size w.heap.size _ (Nat.le_refl _) (Tab.start w Z HZ.out).1 (Tab.start w Z HZ.out).2.1 (Tab.start w Z HZ.out).2.2).mono ?_
  rintro e w1 ⟨rfl, hT⟩
  have HT := Lib.hid hT; clear hT
  go_wp2
  go_loop [5, 12] (fun x i => ∃ k : Nat, k ≤ l.length ∧ i = .int .i64 k ∧ x = .int .u32 (Crc.raw 4294967295 (l.take k) : Nat)) (fun _ i => l.length - (intOf i).toNat)
  case atStart => exact ⟨0, by omega, rfl, rfl⟩
  case round =>
    obtain ⟨k, hk, rfl, rfl⟩ := hrel
    have hlt4 := Crc.raw_lt (l.take k) 4294967295 (by omega) (fun c hc => HS.out c (List.mem_of_mem_take hc))
    by_cases hlt : k < l.length
    · obtain ⟨b, off, rfl, hcell⟩ := HC.out k hlt
      have hb : b < w.heap.size := block_lt_of_cell hcell
      have hcell1 : w1.cell? ⟨b, off + k, none⟩ = some (.int .u8 (atB l k : Nat)) := by
        rw [HT.out.2.2.2.cell (p := ⟨b, off + k, none⟩) (by simp; omega), World.cell?_alloc_lt _ _ _ (by simpa using hb)]; exact hcell
      have hc : atB l k < 256 := HS.out _ (by rw [atB_of hlt]; exact List.getElem_mem hlt)
      have hr : Crc.raw 4294967295 (l.take (k + 1)) = Crc.step (Crc.raw 4294967295 (l.take k)) (atB l k) := by
        rw [List.take_succ_eq_append_getElem hlt, Crc.raw_snoc, atB_of hlt]
      have HR := Lib.hid hr
      have HN := Lib.hid (next_any w.heap.size (Crc.raw 4294967295 (l.take k)) (atB l k) w1 hlt4 hc HT.out.2.2.1)
      clear hr hcell hlt4 hc
      go_wp2_with fail
      refine HN.out.mono ?_
      rintro e w2 ⟨rfl, rfl⟩
      go_wp2
      go_round
      case rel => exact ⟨k + 1, by omega, by go_num, by rw [HR.out]⟩
      case measure => simp [intOf]; omega
    · obtain rfl : k = l.length := by omega
      rw [List.take_length] at hlt4 ⊢
      have e1 : bits .xor .u32 4294967295 ((Crc.raw 4294967295 l : Nat) : Int) = ((Crc.sum l : Nat) : Int) := by
        unfold Crc.sum
        rw [Nat.xor_comm, ← bits_xor32 _ _ (by omega) hlt4]; rfl
      have hB : Below w.heap.size w w1 := ((Below.refl _ _).alloc (Nat.le_refl _) _).trans HT.out.2.2.2
      have HB := Lib.hid hB; clear hB
      have E1 := Lib.hid e1; clear e1
      clear hlt4
      go_wp2
      go_ret
      exact ⟨ret_int E1.out, HB.out⟩
end Go.Proofs.YtlagllhhahomlaaGreat
/- rec: a number is put, a record is put. -/
namespace Go.Proofs.YtlagllhhahomlaaGreat.Rc
open Go Go.RowKit Go.By
theorem grownBy_alloc {w w' : World} {o : Obj} {r : Option Nat} (h : (w.alloc o).grownBy w' r) : w.grownBy w' r :=
  ⟨h.os, h.tape, h.output, by have := h.size; simp at this; omega, fun k hk hn => (h.block k (by simp; omega) hn).trans (Below.heap_alloc w o k hk)⟩
theorem owns_below {w w' : World} {base : Nat} {e : TypeId} {v : Value} {n : Nat} {xs : List Value} (h : w.ownsRow base e 1 v n xs) (hb : Below w.heap.size w w') : w'.ownsRow base e 1 v n xs :=
  ⟨h.1, by
    rcases h.2 with h2 | ⟨g, cap, cur, h1, h2, h3, h4⟩
    · exact .inl h2
    · exact .inr ⟨g, cap, cur, h1, h2, (hb.block g (Array.getElem?_eq_some_iff.1 h3).1).trans h3, h4⟩⟩
set_option maxRecDepth 100000 in
theorem putNumber_any (base : Nat) (v : Value) (l : List Nat) (n : Nat) (w : World) (hv : w.ownsRow base 5 1 v l.length (cellsOf l)) (hb : base ≤ w.heap.size) (hn : n < 4294967296) (hl : l.length ≤ 17592186044416) :
    Calls Tryz.prog 98 #[v, .int .u32 n] w fun e w' => ∃ v', e = .returned v' ∧ w'.ownsRow base 5 1 v' (l ++ highOf n 4).length (cellsOf (l ++ highOf n 4)) ∧ w.grownBy w' v.ownBlock := by
  have HV := Lib.hid hv; clear hv
  obtain ⟨p, cap, hveq⟩ : ∃ p cap, v = .slice p l.length cap := by
    rcases HV.out.2 with ⟨h, h2⟩ | ⟨g, c, _, h, _⟩
    · exact ⟨none, 0, by rw [h]; congr 1; omega⟩
    · exact ⟨_, c, by rw [h]⟩
  subst hveq
  go_enter Tryz.func98, Tryz.ntmps98
  go_wp2_with (at_builtin; go_loud (refine wpList_append_bytes rfl (.tmp 5) (.tmp 17) byT rfl base (.slice p l.length cap) l.length (cellsOf l) rfl (HV.out.alloc _) (.slice (some ⟨w.heap.size, 0, none⟩) 4 4) (highOf n 4) rfl (Bytes.lit (highOf n 4) (by rw [high4]; simp [cellsOf]; omega) (by rw [highOf_length]) (highOf_small _ _) (by rw [highOf_length]; decide)) (by rw [highOf_length]; omega) (by simp; omega) ?_); intro v1 w1 hown hgrow hnil)
  have hown1 : w1.ownsRow base 5 1 v1 (l ++ highOf n 4).length (cellsOf (l ++ highOf n 4)) := by
    rw [List.length_append, cellsOf_append]; exact hown
  have HO := Lib.hid hown1
  have HG := Lib.hid (grownBy_alloc hgrow)
  obtain ⟨p1, c1, rfl⟩ : ∃ p c, v1 = .slice p (l ++ highOf n 4).length c := by
    rcases hown1.2 with ⟨h, h2⟩ | ⟨g, c, _, h, _⟩
    · exact ⟨none, 0, by rw [h]; congr 1; omega⟩
    · exact ⟨_, c, by rw [h]⟩
  clear hown hown1 hgrow hnil
  go_wp2
  go_ret
  exact ⟨_, rfl, HO.out, HG.out⟩
def zeros (n : Nat) : Array Value := (cellsOf (List.replicate n 0)).toArray
theorem zeros_size (n : Nat) : (zeros n).size = n := by simp [zeros, cellsOf]
theorem made_run (m c : Nat) (M C : Int) (hM : M = m) (hC : C = c) (hmc : m ≤ c) (hc : c < 1099511627776) (w : World) : (Instr.makeSlice 26 (.int .i64 M) (.int .i64 C)).run Tryz.prog w = .ok (.slice (some ⟨w.heap.size, 0, none⟩) m c) (w.alloc (.cells (zeros c) 5)) := by
  subst hM hC
  obtain ⟨i, hi, hz, hz1, hz2⟩ := info_parts byT.info
  have h := run_make (P := Tryz.prog) (w := w) 26 5 i (.int .u8 0) byT.slice hi hz .i64 .i64 (m : Int) (c : Int) (by omega) (by omega) (by rw [hz2]; omega) (by omega)
  rw [h]
  have e : madeCells (Value.int .u8 0).cells ((c : Int).toNat * i.size) = zeros c := by
    rw [hz1]
    apply Array.toList_inj.1
    apply List.ext_getElem
    · simp [madeCells, cellsOf, zeros]
    · intro j h1 h2
      simp [madeCells, cellsOf, zeros, Value.cells, Nat.mod_one]
  rw [e]; simp
set_option maxRecDepth 100000 in
theorem put_any (k : Nat) (v : Value) (l : List Nat) (w : World) (hk : k < 256) (hv : Bytes w v l) (hl : l.length ≤ 4096) :
    Calls Tryz.prog 70 #[.int .u8 k, v] w fun e w' => ∃ v', e = .returned (.tuple #[v', .int .i64 0]) ∧ w'.ownsRow w.heap.size 5 1 v' (recOf k l).length (cellsOf (recOf k l)) ∧ Below w.heap.size w w' := by
  obtain ⟨p, cap, rfl, _⟩ := hv.any
  have HV := Lib.hid hv; clear hv
  have hmk := made_run 0 (9 + l.length) 0 (9 + (l.length : Int)) rfl (by omega) (by omega) (by omega)
  go_enter Tryz.func70, Tryz.ntmps70
  go_wp2_with fail
  clear hmk
  refine (putNumber_any w.heap.size _ [] l.length _ (World.ownsRow_made w (zeros (9 + l.length)) (9 + l.length) (Nat.le_refl _) (by unfold maxLen; omega) (by rw [zeros_size, Nat.mul_one])) (by simp) (by omega) (by simp)).mono ?_
  rintro e w1 ⟨v1, rfl, ho1, hg1⟩
  have HO1 := Lib.hid ho1
  have HB1 : Hid (Below w.heap.size w w1) := ((Below.refl _ _).alloc (Nat.le_refl _) _).grown hg1 (by simp) (by simp [Value.ownBlock])
  clear ho1 hg1
  rw [List.nil_append] at HO1
  have hsz1 := HB1.out.size
  have hhl := highOf_length l.length 4
  go_wp2_with (at_builtin; first
    | (refine wpList_append_bytes rfl (.tmp 19) (.tmp 21) byT rfl w.heap.size v1 (highOf l.length 4).length (cellsOf (highOf l.length 4)) rfl (HO1.out.alloc _) (.slice (some ⟨w1.heap.size, 0, none⟩) 1 1) [k] rfl (Bytes.one rfl hk) (by rw [highOf_length]; simp) (by simp; omega) ?_; intro v2 w2 hown2 hgrow2 _
       have HO2 := Lib.hid hown2; have HG2 := Lib.hid (grownBy_alloc hgrow2); have hsz2 := HG2.out.size; clear hown2 hgrow2)
    | (refine wpList_append_bytes rfl (.tmp 23) (.tmp 24) byT rfl w.heap.size v2 ((highOf l.length 4).length + [k].length) (cellsOf (highOf l.length 4) ++ cellsOf [k]) rfl HO2.out (.slice p l.length cap) l rfl (HV.out.below (HB1.out.grown HG2.out hsz1 (fun j hj => (HO1.out.lt j hj).1))) (by rw [highOf_length]; simp; omega) (by omega) ?_; intro v3 w3 hown3 hgrow3 _))
  have hown3' : w3.ownsRow w.heap.size 5 1 v3 (recHead k l).length (cellsOf (recHead k l)) := by
    have e1 : (recHead k l).length = (highOf l.length 4).length + [k].length + l.length := by rw [recHead_length, highOf_length]; simp
    have e2 : cellsOf (recHead k l) = cellsOf (highOf l.length 4) ++ cellsOf [k] ++ cellsOf l := by rw [recHead, cellsOf_append, cellsOf_append, List.append_assoc]
    rw [e1, e2]; exact hown3
  have hb3 : Below w.heap.size w w3 := (HB1.out.grown HG2.out hsz1 (fun j hj => (HO1.out.lt j hj).1)).grown hgrow3 (by omega) (fun j hj => (HO2.out.lt j hj).1)
  have HO3 := Lib.hid hown3'
  have HB3 := Lib.hid hb3
  clear hown3 hgrow3 hown3' hb3 HO1 HB1 HO2 HG2 hsz1 hsz2 hhl
  obtain ⟨p3, c3, rfl⟩ : ∃ p c, v3 = .slice p (recHead k l).length c := by
    rcases HO3.out.2 with ⟨h, h2⟩ | ⟨g, c, _, h, _⟩
    · exact ⟨none, 0, by rw [h]; congr 1; omega⟩
    · exact ⟨_, c, by rw [h]⟩
  have hsm := Lib.hid (recHead_small hk HV.out.small)
  go_wp2_with fail
  refine (sum_any _ (recHead k l) w3 (Bytes.of_owns HO3.out hsm.out (by rw [recHead_length]; unfold maxLen; omega))).mono ?_
  rintro e w4 ⟨rfl, hb4⟩
  have HO4 : Hid (w4.ownsRow w.heap.size 5 1 (.slice p3 (recHead k l).length c3) (recHead k l).length (cellsOf (recHead k l))) := owns_below HO3.out hb4
  have HB4 : Hid (Below w.heap.size w w4) := HB3.out.trans (hb4.mono HB3.out.size)
  have hcs : Hid (Crc.sum (recHead k l) < 4294967296) := Crc.sum_lt _ hsm.out
  clear hb4 HO3 HB3
  go_wp2_with fail
  refine (putNumber_any w.heap.size _ (recHead k l) _ w4 HO4.out HB4.out.size hcs.out (by rw [recHead_length]; omega)).mono ?_
  rintro e w5 ⟨v5, rfl, ho5, hg5⟩
  have HO5 := Lib.hid ho5
  have HB5 : Hid (Below w.heap.size w w5) := HB4.out.grown hg5 HB4.out.size (fun j hj => (HO4.out.lt j hj).1)
  clear ho5 hg5
  go_wp2
  go_ret2
  exact ⟨_, rfl, HO5.out, HB5.out⟩
end Go.Proofs.YtlagllhhahomlaaGreat.Rc
/- rec: the reader. -/
namespace Go.Proofs.YtlagllhhahomlaaGreat.Rc
open Go Go.RowKit Go.By
theorem bytT_size (w : World) : (sizeOf (Tryz.prog.elem 26)).run Tryz.prog w = .ok 1 w := by kernel_rfl
theorem piece_run {w : World} {p : Option Addr} {cap : Nat} {l : List Nat} (h : Bytes w (.slice p l.length cap) l) (i n : Nat) (hn : i + n ≤ l.length) :
    ∃ q c, (∀ w0 : World, (Instr.slice 26 (.slice p l.length cap) (some (.int .i64 (i : Int))) (some (.int .i64 ((i : Int) + (n : Int)))) none).run Tryz.prog w0 = .ok (.slice q n c) w0) ∧ Bytes w (.slice q n c) (pc l i n) := by
  have hcap := h.room.2
  have hr := fun w0 => run_slice_lh (P := Tryz.prog) w0 26 p l.length cap (by kernel_rfl) .i64 .i64 (i : Int) ((i : Int) + (n : Int)) (by omega) (by omega) (by omega)
  have e1 : ((i : Int) + (n : Int)).toNat = i + n := by omega
  have e2 : (i : Int).toNat = i := by omega
  simp only [bytT_size, Result.andThen, e1, e2, sliced, Nat.add_sub_cancel_left, Nat.mul_one] at hr
  refine ⟨_, _, hr, ?_⟩
  have hpl := pc_length hn
  rcases h.out with ⟨h1, rfl⟩ | ⟨a, h1, rfl⟩ | ⟨b, off, cap', h1, h2, hc⟩
  · simp only [Value.slice.injEq] at h1
    obtain ⟨rfl, _, rfl⟩ := h1
    simp only [List.length_nil] at hn
    obtain rfl : i = 0 := by omega
    obtain rfl : n = 0 := by omega
    simpa [pc] using Bytes.nil w
  · simp only [Value.slice.injEq] at h1
    obtain ⟨rfl, _, rfl⟩ := h1
    simp only [List.length_nil] at hn
    obtain rfl : i = 0 := by omega
    obtain rfl : n = 0 := by omega
    simp only [↓reduceIte, Nat.sub_zero, pc, List.drop_nil, List.take_nil]
    exact ⟨.inr (.inl ⟨a, rfl, rfl⟩), by simp, by simp⟩
  · simp only [Value.slice.injEq, true_and] at h1
    obtain ⟨rfl, rfl⟩ := h1
    by_cases he : cap = i
    · obtain rfl : n = 0 := by omega
      rw [if_pos he]
      subst he
      simp only [Nat.sub_self, pc, List.take_zero]
      exact ⟨.inr (.inl ⟨_, rfl, rfl⟩), by simp, by simp⟩
    · rw [if_neg he]
      refine ⟨.inr (.inr ⟨b, off + i, cap - i, by simp [Addr.add_lit, hpl], by rw [hpl]; omega, fun j hj => ?_⟩), pc_small h.small, by rw [hpl]; have := h.short; omega⟩
      rw [hpl] at hj
      rw [Nat.add_assoc, hc (i + j) (by omega), pc_at hj]
def Rd (B b : Nat) (w0 w : World) (sv : Value) (i size kind : Nat) (bv : Value) : Prop :=
  w.heap[b]? = some (.cells #[sv, .int .i64 i, .int .i64 size, .int .u8 kind, bv] 248 (0, 0)) ∧ Below B w0 w
theorem cells_of {w : World} {a : Nat} {c : Array Value} {t : TypeId} {fr : Nat × Nat} (h : w.heap[a]? = some (.cells c t fr)) (i : Nat) : w.cell? ⟨a, i, none⟩ = c[i]? := cell_of_row w a i c t fr h
theorem free_of {w : World} {a : Nat} {c : Array Value} {t : TypeId} (h : w.heap[a]? = some (.cells c t (0, 0))) (i : Nat) : w.frozen? ⟨a, i, none⟩ = false := frozen_of_row w a i c t h
theorem set_heap {w : World} {a : Nat} {c : Array Value} {t : TypeId} (h : w.heap[a]? = some (.cells c t (0, 0))) (i : Nat) (v : Value) :
    (w.setCell ⟨a, i, none⟩ v).heap[a]? = some (.cells (c.setIfInBounds i v) t (0, 0)) := heap_setCell_same w a i c t v h
theorem Rd.setAt {B b : Nat} {w0 w : World} {sv : Value} {i size kind : Nat} {bv : Value} (h : Rd B b w0 w sv i size kind bv) (hB : B ≤ b) (j : Nat) : Rd B b w0 (w.setCell ⟨b, 1, none⟩ (.int .i64 j)) sv j size kind bv :=
  ⟨set_heap h.1 1 _, h.2.setCell hB _⟩
theorem Rd.setSize {B b : Nat} {w0 w : World} {sv : Value} {i size kind : Nat} {bv : Value} (h : Rd B b w0 w sv i size kind bv) (hB : B ≤ b) (j : Nat) : Rd B b w0 (w.setCell ⟨b, 2, none⟩ (.int .i64 j)) sv i j kind bv :=
  ⟨set_heap h.1 2 _, h.2.setCell hB _⟩
theorem Rd.setKind {B b : Nat} {w0 w : World} {sv : Value} {i size kind : Nat} {bv : Value} (h : Rd B b w0 w sv i size kind bv) (hB : B ≤ b) (j : Nat) : Rd B b w0 (w.setCell ⟨b, 3, none⟩ (.int .u8 j)) sv i size j bv :=
  ⟨set_heap h.1 3 _, h.2.setCell hB _⟩
theorem Rd.setBody {B b : Nat} {w0 w : World} {sv : Value} {i size kind : Nat} {bv : Value} (h : Rd B b w0 w sv i size kind bv) (hB : B ≤ b) (v : Value) : Rd B b w0 (w.setCell ⟨b, 4, none⟩ v) sv i size kind v :=
  ⟨set_heap h.1 4 _, h.2.setCell hB _⟩
theorem Rd.drew {B b : Nat} {w0 w : World} {sv : Value} {i size kind : Nat} {bv : Value} (h : Rd B b w0 w sv i size kind bv) : Rd B b w0 w.drew sv i size kind bv := ⟨h.1, h.2.drew⟩
theorem Rd.below {B b : Nat} {w0 w w' : World} {sv : Value} {i size kind : Nat} {bv : Value} (h : Rd B b w0 w sv i size kind bv) (hb : Below w.heap.size w w') (hB : B ≤ b) : Rd B b w0 w' sv i size kind bv := by
  have hlt : b < w.heap.size := (Array.getElem?_eq_some_iff.1 h.1).1
  exact ⟨(hb.block b hlt).trans h.1, h.2.trans (hb.mono (by omega))⟩
set_option maxRecDepth 100000 in
theorem next_no (B b : Nat) (w0 w : World) (sv : Value) (l : List Nat) (i size kind n : Nat) (bv : Value) (h : Rd B b w0 w sv i size kind bv) (hsv : Bytes w0 sv l) (hi : i ≤ l.length) (hn : n ≤ 4611686018427387904) (hlt : l.length < i + n) :
    Calls Tryz.prog 189 #[.pointer (some ⟨b, 0, none⟩), .int .i64 n] w fun e w' => e = .returned (.tuple #[.slice none 0 0, .bool false]) ∧ Rd B b w0 w' sv i size kind bv := by
  obtain ⟨p, cap, rfl, _⟩ := hsv.any
  have hm := hsv.short
  unfold maxLen at hm
  clear hsv
  have c0 := cells_of h.1 0
  have c1 := cells_of h.1 1
  simp only [List.getElem?_toArray, List.getElem?_cons_zero, List.getElem?_cons_succ] at c0 c1
  have H := Lib.hid h; clear h
  have b1 : (l.length : Int) - i < n := by omega
  clear hlt
  go_enter Tryz.func189, Tryz.ntmps189
  go_wp2
  go_region
  go_wp2
  go_ret2
  exact ⟨rfl, H.out.drew⟩
set_option maxRecDepth 100000 in
theorem next_yes (B b : Nat) (w0 w : World) (sv : Value) (l : List Nat) (i size kind n : Nat) (bv : Value) (h : Rd B b w0 w sv i size kind bv) (hsv : Bytes w0 sv l) (hB : B ≤ b) (hlt : i + n ≤ l.length) :
    Calls Tryz.prog 189 #[.pointer (some ⟨b, 0, none⟩), .int .i64 n] w fun e w' => ∃ q c, e = .returned (.tuple #[.slice q n c, .bool true]) ∧ Bytes w0 (.slice q n c) (pc l i n) ∧ Rd B b w0 w' sv (i + n) size kind bv := by
  obtain ⟨p, cap, rfl, _⟩ := hsv.any
  have hm := hsv.short
  unfold maxLen at hm
  obtain ⟨q, c, hsl, hbq⟩ := piece_run hsv i n hlt
  have HBZ := Lib.hid hbq
  clear hsv hbq
  have c0 := cells_of h.1 0
  have c1 := cells_of h.1 1
  have f0 := free_of h.1
  simp only [List.getElem?_toArray, List.getElem?_cons_zero, List.getElem?_cons_succ] at c0 c1
  have H2 := Lib.hid (h.drew.setAt hB (i + n))
  have H := Lib.hid h; clear h
  have b1 : ¬ (l.length : Int) - i < n := by omega
  clear hlt
  go_enter Tryz.func189, Tryz.ntmps189
  go_wp2
  go_region
  go_wp2
  go_region
  go_wp2
  go_ret2
  exact ⟨_, _, rfl, HBZ.out, H2.out.drew⟩
end Go.Proofs.YtlagllhhahomlaaGreat.Rc
/- rec: the reader's numbers and parts. -/
namespace Go.Proofs.YtlagllhhahomlaaGreat.Rc
open Go Go.RowKit Go.By
set_option maxRecDepth 100000 in
theorem number_no (B b : Nat) (w0 w : World) (sv : Value) (l : List Nat) (i size kind : Nat) (bv : Value) (h : Rd B b w0 w sv i size kind bv) (hsv : Bytes w0 sv l) (hi : i ≤ l.length) (hlt : l.length < i + 4) :
    Calls Tryz.prog 188 #[.pointer (some ⟨b, 0, none⟩)] w fun e w' => e = .returned (.tuple #[.int .u32 0, .bool false]) ∧ Rd B b w0 w' sv i size kind bv := by
  have hc := next_no B b w0 w sv l i size kind 4 bv h hsv hi (by omega) hlt
  have HC := Lib.hid hc
  clear hc h hsv hi hlt
  go_enter Tryz.func188, Tryz.ntmps188
  go_wp2_with fail
  refine HC.out.mono ?_
  rintro e w1 ⟨rfl, hr⟩
  have HR := Lib.hid hr; clear hr
  go_wp2
  go_loop [6, 16] (fun x i => x = .int .u32 0 ∧ i = .int .i64 0) (fun _ _ => 0)
  case atStart => exact ⟨rfl, rfl⟩
  case round =>
    obtain ⟨rfl, rfl⟩ := hrel
    go_wp2
    go_ret2
    exact ⟨rfl, HR.out⟩
theorem or_byte (n c : Nat) (hn : n < 16777216) (hc : c < 256) : bits .or .u32 ((n * 256 : Nat) : Int) (c : Int) = ((n * 256 + c : Nat) : Int) := by
  have h := Nat.two_pow_add_eq_or_of_lt (i := 8) (b := c) hc n
  rw [(bits_nat .u32 32 (by decide) (fun n h0 h1 => by rw [IntKind.wrap_u32]; omega) (n * 256) c (by omega) (by omega)).2]
  have h3 : n * 256 ||| c = n * 256 + c := by rw [show n * 256 = 2 ^ 8 * n by omega, ← h]
  rw [h3]
set_option maxRecDepth 100000 in
theorem number_yes (B b : Nat) (w0 w : World) (sv : Value) (l : List Nat) (i size kind : Nat) (bv : Value) (h : Rd B b w0 w sv i size kind bv) (hsv : Bytes w0 sv l) (hB : B ≤ b) (hw : w0.heap.size ≤ B) (hlt : i + 4 ≤ l.length) :
    Calls Tryz.prog 188 #[.pointer (some ⟨b, 0, none⟩)] w fun e w' => e = .returned (.tuple #[.int .u32 (numOf (pc l i 4) : Nat), .bool true]) ∧ Rd B b w0 w' sv (i + 4) size kind bv := by
  have hc := next_yes B b w0 w sv l i size kind 4 bv h hsv hB hlt
  have HC := Lib.hid hc
  have hps : ∀ c ∈ pc l i 4, c < 256 := pc_small hsv.small
  have hpl : (pc l i 4).length = 4 := pc_length hlt
  have HW := Lib.hid hw
  clear hc h hsv hlt hB hw
  generalize pc l i 4 = m at *
  have HM := Lib.hid hps; have HL := Lib.hid hpl
  clear hps hpl
  go_enter Tryz.func188, Tryz.ntmps188
  go_wp2_with fail
  refine HC.out.mono ?_
  rintro e w1 ⟨q, c, rfl, hbq, hr⟩
  have HQ := Lib.hid (hbq.below (hr.2.mono HW.out)); have HR := Lib.hid hr; clear hr hbq HC
  go_wp2
  go_loop [6, 16] (fun x i => ∃ k : Nat, k ≤ 4 ∧ i = .int .i64 k ∧ x = .int .u32 (numOf (m.take k) : Nat)) (fun _ i => 4 - (intOf i).toNat)
  case atStart => exact ⟨0, by omega, rfl, rfl⟩
  case round =>
    obtain ⟨k, hk, rfl, rfl⟩ := hrel
    by_cases hk4 : k < 4
    · have hmk : k < m.length := by rw [HL.out]; exact hk4
      obtain ⟨b1, o1, rfl, hcell⟩ := HQ.out.spot k hmk
      have hn : numOf (m.take k) < 16777216 := by
        have h1 := numOf_lt (m.take k) (fun c hc => HM.out c (List.mem_of_mem_take hc))
        have h2 : 256 ^ (m.take k).length ≤ 256 ^ 3 := Nat.pow_le_pow_right (by omega) (by rw [List.length_take]; omega)
        omega
      have hcl : atB m k < 256 := HM.out _ (by rw [atB_of hmk]; exact List.getElem_mem hmk)
      have hs : numOf (m.take (k + 1)) = numOf (m.take k) * 256 + atB m k := by
        rw [List.take_succ_eq_append_getElem hmk, numOf_snoc, atB_of hmk]
      have HS := Lib.hid hs; clear hs
      have e1 := or_byte (numOf (m.take k)) (atB m k) hn hcl
      have e2 : IntKind.u32.wrap ((numOf (m.take k) : Int) * 256) = ((numOf (m.take k) * 256 : Nat) : Int) := by rw [IntKind.wrap_u32]; omega
      generalize numOf (m.take k) * 256 = z at *
      generalize numOf (m.take k) = x at *
      generalize atB m k = y at *
      generalize hzy : z + y = zy at *
      clear hmk hn hzy
      go_wp2
      go_round
      case rel => exact ⟨k + 1, by omega, by go_num, by rw [HS.out]⟩
      case measure => simp [intOf]; omega
    · obtain rfl : k = 4 := by omega
      have ht : m.take 4 = m := List.take_of_length_le (by rw [HL.out]; omega)
      rw [ht]
      clear ht
      go_wp2
      go_ret2
      exact ⟨rfl, HR.out⟩
def PartNo (B : Nat) (w0 : World) (e : Ending) (w' : World) : Prop := e = .returned (.bool false) ∧ Below B w0 w'
set_option maxRecDepth 100000 in
theorem size_no (B b : Nat) (w0 w : World) (sv : Value) (l : List Nat) (bv : Value) (h : Rd B b w0 w sv 0 0 0 bv) (hsv : Bytes w0 sv l) (hB : B ≤ b) (hw : w0.heap.size ≤ B) (hp : partOk l 0 = false) :
    Calls Tryz.prog 165 #[.pointer (some ⟨b, 0, none⟩)] w fun e w' => PartNo B w0 e w' := by
  by_cases h4 : 4 ≤ l.length
  · have hc := number_yes B b w0 w sv l 0 0 0 bv h hsv hB hw (by omega)
    have hn : 4096 < (numOf (pc l 0 4) : Int) := by
      simp only [partOk, decide_eq_true h4, Bool.true_and, decide_eq_false_iff_not] at hp
      unfold bodyLen at hp
      omega
    have HC := Lib.hid hc
    clear hc h hsv hB hw hp h4
    generalize numOf (pc l 0 4) = x at *
    go_enter Tryz.func165, Tryz.ntmps165
    go_wp2_with fail
    refine HC.out.mono ?_
    rintro e w1 ⟨rfl, hr⟩
    have HR := Lib.hid hr; clear hr
    go_wp2
    go_ret
    exact ⟨rfl, HR.out.2⟩
  · have hc := number_no B b w0 w sv l 0 0 0 bv h hsv (by omega) (by omega)
    have HC := Lib.hid hc
    clear hc h hsv hB hw hp h4
    go_enter Tryz.func165, Tryz.ntmps165
    go_wp2_with fail
    refine HC.out.mono ?_
    rintro e w1 ⟨rfl, hr⟩
    have HR := Lib.hid hr; clear hr
    go_wp2
    go_ret
    exact ⟨rfl, HR.out.2⟩
set_option maxRecDepth 100000 in
theorem size_yes (B b : Nat) (w0 w : World) (sv : Value) (l : List Nat) (bv : Value) (h : Rd B b w0 w sv 0 0 0 bv) (hsv : Bytes w0 sv l) (hB : B ≤ b) (hw : w0.heap.size ≤ B) (hp : partOk l 0 = true) :
    Calls Tryz.prog 165 #[.pointer (some ⟨b, 0, none⟩)] w fun e w' => e = .returned (.bool true) ∧ Rd B b w0 w' sv 4 (bodyLen l) 0 bv := by
  simp only [partOk, Bool.and_eq_true, decide_eq_true_eq] at hp
  have hc := number_yes B b w0 w sv l 0 0 0 bv h hsv hB hw (by omega)
  have hn : (numOf (pc l 0 4) : Int) ≤ 4096 := by have := hp.2; unfold bodyLen at this; omega
  have HC := Lib.hid hc
  have HBB := Lib.hid hB
  clear hc h hsv hB hw hp
  unfold bodyLen
  generalize numOf (pc l 0 4) = x at *
  go_enter Tryz.func165, Tryz.ntmps165
  go_wp2_with fail
  refine HC.out.mono ?_
  rintro e w1 ⟨rfl, hr⟩
  have c2 := cells_of hr.1 2
  have f0 := free_of hr.1
  simp only [List.getElem?_toArray, List.getElem?_cons_zero, List.getElem?_cons_succ] at c2
  have HR := Lib.hid (hr.setSize HBB.out x); clear hr
  go_wp2
  go_ret
  exact ⟨rfl, HR.out⟩
set_option maxRecDepth 100000 in
theorem kind_no (B b : Nat) (w0 w : World) (sv : Value) (l : List Nat) (size : Nat) (bv : Value) (h : Rd B b w0 w sv 4 size 0 bv) (hsv : Bytes w0 sv l) (h4 : 4 ≤ l.length) (hp : partOk l 1 = false) :
    Calls Tryz.prog 166 #[.pointer (some ⟨b, 0, none⟩)] w fun e w' => PartNo B w0 e w' := by
  have hc := next_no B b w0 w sv l 4 size 0 1 bv h hsv h4 (by omega) (by simp only [partOk, decide_eq_false_iff_not] at hp; omega)
  have HC := Lib.hid hc
  clear hc h hsv hp h4
  go_enter Tryz.func166, Tryz.ntmps166
  go_wp2_with fail
  refine HC.out.mono ?_
  rintro e w1 ⟨rfl, hr⟩
  have HR := Lib.hid hr; clear hr
  go_wp2
  go_ret
  exact ⟨rfl, HR.out.2⟩
set_option maxRecDepth 100000 in
theorem kind_yes (B b : Nat) (w0 w : World) (sv : Value) (l : List Nat) (size : Nat) (bv : Value) (h : Rd B b w0 w sv 4 size 0 bv) (hsv : Bytes w0 sv l) (hB : B ≤ b) (hw : w0.heap.size ≤ B) (hp : partOk l 1 = true) :
    Calls Tryz.prog 166 #[.pointer (some ⟨b, 0, none⟩)] w fun e w' => e = .returned (.bool true) ∧ Rd B b w0 w' sv 5 size (atB l 4) bv := by
  simp only [partOk, decide_eq_true_eq] at hp
  have hc := next_yes B b w0 w sv l 4 size 0 1 bv h hsv hB (by omega)
  have ha : Hid (atB (pc l 4 1) 0 = atB l 4) := pc_at (by omega)
  have hpl : Hid ((pc l 4 1).length = 1) := pc_length (by omega)
  have HC := Lib.hid hc
  have HBB := Lib.hid hB
  have HW := Lib.hid hw
  clear hc h hsv hB hw hp
  generalize pc l 4 1 = m at *
  generalize atB l 4 = y at *
  go_enter Tryz.func166, Tryz.ntmps166
  go_wp2_with fail
  refine HC.out.mono ?_
  rintro e w1 ⟨q, c, rfl, hbq, hr⟩
  obtain ⟨b1, o1, rfl, hcell⟩ := (hbq.below (hr.2.mono HW.out)).spot 0 (by rw [hpl.out]; omega)
  rw [ha.out, Nat.add_zero] at hcell
  have c3 := cells_of hr.1 3
  have f0 := free_of hr.1
  simp only [List.getElem?_toArray, List.getElem?_cons_zero, List.getElem?_cons_succ] at c3
  have HR := Lib.hid (hr.setKind HBB.out y); clear hr hbq
  go_wp2
  go_ret
  exact ⟨rfl, HR.out⟩
set_option maxRecDepth 100000 in
theorem body_no (B b : Nat) (w0 w : World) (sv : Value) (l : List Nat) (kind : Nat) (bv : Value) (h : Rd B b w0 w sv 5 (bodyLen l) kind bv) (hsv : Bytes w0 sv l) (hB : B ≤ b) (h5 : 5 ≤ l.length) (hn : bodyLen l ≤ 4096) (hp : partOk l 2 = false) :
    Calls Tryz.prog 167 #[.pointer (some ⟨b, 0, none⟩)] w fun e w' => PartNo B w0 e w' := by
  have hc := next_no B b w0 w sv l 5 (bodyLen l) kind (bodyLen l) bv h hsv h5 (by omega) (by simp only [partOk, decide_eq_false_iff_not] at hp; omega)
  have HC := Lib.hid hc
  have c2 := cells_of h.1 2
  have c4 := cells_of h.1 4
  simp only [List.getElem?_toArray, List.getElem?_cons_zero, List.getElem?_cons_succ] at c2 c4
  have HBB := Lib.hid hB
  clear hc h hsv hp h5 hn hB
  generalize bodyLen l = x at *
  go_enter Tryz.func167, Tryz.ntmps167
  go_wp2_with fail
  refine HC.out.mono ?_
  rintro e w1 ⟨rfl, hr⟩
  have f0 := free_of hr.1
  have d4 := cells_of hr.1 4
  simp only [List.getElem?_toArray, List.getElem?_cons_zero, List.getElem?_cons_succ] at d4
  have HR := Lib.hid (hr.setBody HBB.out (.slice none 0 0)); clear hr c2 c4
  go_wp2
  go_ret
  exact ⟨rfl, HR.out.2⟩
set_option maxRecDepth 100000 in
theorem body_yes (B b : Nat) (w0 w : World) (sv : Value) (l : List Nat) (kind : Nat) (bv : Value) (h : Rd B b w0 w sv 5 (bodyLen l) kind bv) (hsv : Bytes w0 sv l) (hB : B ≤ b) (_hn : bodyLen l ≤ 4096) (hp : partOk l 2 = true) :
    Calls Tryz.prog 167 #[.pointer (some ⟨b, 0, none⟩)] w fun e w' => e = .returned (.bool true) ∧ ∃ v, Bytes w0 v (pc l 5 (bodyLen l)) ∧ Rd B b w0 w' sv (5 + bodyLen l) (bodyLen l) kind v := by
  simp only [partOk, decide_eq_true_eq] at hp
  have hc := next_yes B b w0 w sv l 5 (bodyLen l) kind (bodyLen l) bv h hsv hB hp
  have HC := Lib.hid hc
  have c2 := cells_of h.1 2
  simp only [List.getElem?_toArray, List.getElem?_cons_zero, List.getElem?_cons_succ] at c2
  have HBB := Lib.hid hB
  clear hc h hsv hp hB
  generalize pc l 5 (bodyLen l) = m at *
  generalize bodyLen l = x at *
  go_enter Tryz.func167, Tryz.ntmps167
  go_wp2_with fail
  refine HC.out.mono ?_
  rintro e w1 ⟨q, c, rfl, hbq, hr⟩
  have f0 := free_of hr.1
  have d4 := cells_of hr.1 4
  simp only [List.getElem?_toArray, List.getElem?_cons_zero, List.getElem?_cons_succ] at d4
  have HR := Lib.hid (hr.setBody HBB.out (.slice q x c)); clear hr c2
  have HQ := Lib.hid hbq; clear hbq
  go_wp2
  go_ret
  exact ⟨rfl, _, HQ.out, HR.out⟩
set_option maxRecDepth 100000 in
theorem upto_run (p : Option Addr) (len cap n : Nat) (hn : n ≤ cap) (w : World) : (Instr.slice 26 (.slice p len cap) none (some (.int .i64 (n : Int))) none).run Tryz.prog w = .ok (.slice p n cap) w := by
  have hr := run_slice_h (P := Tryz.prog) w 26 p len cap (by kernel_rfl) .i64 (n : Int) (by omega) (by omega)
  have e2 : (n : Int).toNat = n := by omega
  simp only [bytT_size, Result.andThen, e2, sliced, Nat.zero_mul, Nat.sub_zero] at hr
  rw [hr]
  congr 2
  split
  · rfl
  · cases p with
    | none => rfl
    | some a => simp [Addr.add]
set_option maxRecDepth 100000 in
theorem sum_no (B b : Nat) (w0 w : World) (sv : Value) (l : List Nat) (kind : Nat) (bv : Value) (h : Rd B b w0 w sv (5 + bodyLen l) (bodyLen l) kind bv) (hsv : Bytes w0 sv l) (hB : B ≤ b) (hw : w0.heap.size ≤ B) (hl : 5 + bodyLen l ≤ l.length) (hp : partOk l 3 = false) :
    Calls Tryz.prog 168 #[.pointer (some ⟨b, 0, none⟩)] w fun e w' => PartNo B w0 e w' := by
  obtain ⟨p, cap, rfl, _⟩ := hsv.any
  have hm := hsv.room.2
  have hup := upto_run p l.length cap (5 + bodyLen l) (by omega)
  have hms := hsv.short
  unfold maxLen at hms
  by_cases h4 : 5 + bodyLen l + 4 ≤ l.length
  · have hne : ¬ numOf (pc l (5 + bodyLen l) 4) = Crc.sum (l.take (5 + bodyLen l)) := by
      intro he
      simp [partOk, he] at hp
      omega
    have HC := Lib.hid (fun w' h' => number_yes B b w0 w' (.slice p l.length cap) l (5 + bodyLen l) (bodyLen l) kind bv h' hsv hB hw h4)
    have HT := Lib.hid (fun w' (hb : Below B w0 w') => (hsv.upto hl).below (hb.mono hw))
    have c0 := cells_of h.1 0
    have c1 := cells_of h.1 1
    have f0 := free_of h.1
    simp only [List.getElem?_toArray, List.getElem?_cons_zero, List.getElem?_cons_succ] at c0 c1
    have H := Lib.hid h
    have HBB := Lib.hid hB
    have HW := Lib.hid hw
    clear h hsv hB hw hp h4
    generalize numOf (pc l (5 + bodyLen l) 4) = x at *
    generalize l.take (5 + bodyLen l) = m at *
    generalize bodyLen l = size at *
    generalize hat : 5 + size = i at *
    have hne' : ((x : Int) == ((Crc.sum m : Nat) : Int)) = false := by rw [beq_eq_false_iff_ne]; omega
    generalize hsm : Crc.sum m = y at *
    have HSM := Lib.hid hsm
    clear hat hne hl hsm
    go_enter Tryz.func168, Tryz.ntmps168
    go_wp2
    go_region
    clear c0 c1 f0
    go_wp2_with fail
    refine (HC.out _ H.out.drew).mono ?_
    rintro e w1 ⟨rfl, hr⟩
    have HR := Lib.hid hr; clear hr
    go_wp2_with fail
    refine (sum_any _ m w1 (HT.out w1 HR.out.2)).mono ?_
    rintro e w2 ⟨rfl, hb2⟩
    have HB2 := Lib.hid (HR.out.2.trans (hb2.mono (Nat.le_trans (by have := HR.out.2.size; have := (Array.getElem?_eq_some_iff.1 HR.out.1).1; have := HBB.out; omega) (Nat.le_refl _))))
    clear hb2
    rw [HSM.out]
    go_wp2
    go_ret
    exact ⟨rfl, HB2.out⟩
  · have HC := Lib.hid (fun w' h' => number_no B b w0 w' (.slice p l.length cap) l (5 + bodyLen l) (bodyLen l) kind bv h' hsv (by omega) (by omega))
    have c0 := cells_of h.1 0
    have c1 := cells_of h.1 1
    have f0 := free_of h.1
    simp only [List.getElem?_toArray, List.getElem?_cons_zero, List.getElem?_cons_succ] at c0 c1
    have H := Lib.hid h
    clear h hsv hB hw hp h4
    generalize bodyLen l = size at *
    generalize hat : 5 + size = i at *
    clear hat hl
    go_enter Tryz.func168, Tryz.ntmps168
    go_wp2
    go_region
    clear c0 c1 f0
    go_wp2_with fail
    refine (HC.out _ H.out.drew).mono ?_
    rintro e w1 ⟨rfl, hr⟩
    have HR := Lib.hid hr; clear hr
    go_wp2
    go_ret
    exact ⟨rfl, HR.out.2⟩
set_option maxRecDepth 100000 in
theorem sum_yes (B b : Nat) (w0 w : World) (sv : Value) (l : List Nat) (kind : Nat) (bv : Value) (h : Rd B b w0 w sv (5 + bodyLen l) (bodyLen l) kind bv) (hsv : Bytes w0 sv l) (hB : B ≤ b) (hw : w0.heap.size ≤ B) (hp : partOk l 3 = true) :
    Calls Tryz.prog 168 #[.pointer (some ⟨b, 0, none⟩)] w fun e w' => e = .returned (.bool true) ∧ Rd B b w0 w' sv (9 + bodyLen l) (bodyLen l) kind bv := by
  obtain ⟨p, cap, rfl, _⟩ := hsv.any
  have hm := hsv.room.2
  simp only [partOk, Bool.and_eq_true, decide_eq_true_eq, beq_iff_eq] at hp
  obtain ⟨h4, he⟩ := hp
  have hl : 5 + bodyLen l ≤ l.length := by omega
  have hup := upto_run p l.length cap (5 + bodyLen l) (by omega)
  have hms := hsv.short
  unfold maxLen at hms
  have hc := fun w' h' => number_yes B b w0 w' (.slice p l.length cap) l (5 + bodyLen l) (bodyLen l) kind bv h' hsv hB hw (by omega)
  have h9 : 5 + bodyLen l + 4 = 9 + bodyLen l := by omega
  rw [h9, he] at hc
  have HC := Lib.hid hc
  have HT := Lib.hid (fun w' (hb : Below B w0 w') => (hsv.upto hl).below (hb.mono hw))
  have c0 := cells_of h.1 0
  have c1 := cells_of h.1 1
  have f0 := free_of h.1
  simp only [List.getElem?_toArray, List.getElem?_cons_zero, List.getElem?_cons_succ] at c0 c1
  have H := Lib.hid h
  have HBB := Lib.hid hB
  clear h hsv hB hw h4 hc he h9
  generalize l.take (5 + bodyLen l) = m at *
  generalize bodyLen l = size at *
  generalize hat : 5 + size = i at *
  clear hat hl
  generalize hsm : Crc.sum m = y at *
  have HSM := Lib.hid hsm
  clear hsm
  go_enter Tryz.func168, Tryz.ntmps168
  go_wp2
  go_region
  clear c0 c1 f0
  go_wp2_with fail
  refine (HC.out _ H.out.drew).mono ?_
  rintro e w1 ⟨rfl, hr⟩
  have HR := Lib.hid hr; clear hr
  go_wp2_with fail
  refine (sum_any _ m w1 (HT.out w1 HR.out.2)).mono ?_
  rintro e w2 ⟨rfl, hb2⟩
  have HB2 := Lib.hid (HR.out.below hb2 HBB.out)
  clear hb2
  rw [HSM.out]
  go_wp2
  go_ret
  exact ⟨rfl, HB2.out⟩
end Go.Proofs.YtlagllhhahomlaaGreat.Rc
