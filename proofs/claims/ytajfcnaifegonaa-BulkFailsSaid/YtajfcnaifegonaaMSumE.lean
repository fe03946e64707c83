/- Sum: walks: the table. -/
import Derived.Test.YtajfcnaifegonaaMSumB
import Derived.Handy
import Derived.Test.YtajfcnaifegonaaMSlA
import Derived.Test.YtajfcnaifegonaaMDskA
namespace Go.Proofs.Ytajfcnaifegonaa
open Go.RowKit
theorem d8_add (k rest : Nat) (h : rest < 2 ^ k) : Crc.d8 (2 ^ k + rest) = Crc.d8 (2 ^ k) ^^^ Crc.d8 rest := by
  rw [← Crc.d8_xor]
  congr 1
  apply Nat.eq_of_testBit_eq; intro i
  have h1 := Nat.two_pow_add_eq_or_of_lt (i := k) (b := rest) h 1
  rw [Nat.mul_one] at h1
  rw [h1, Nat.testBit_or, Nat.testBit_xor, Nat.testBit_two_pow]
  by_cases hi : k = i
  · subst hi; simp [Nat.testBit_lt_two_pow h]
  · simp [hi]
def Tab (B b m : Nat) (w0 w : World) : Prop :=
  (∀ i : Nat, i < 256 → ∃ v, w.cell? ⟨b, i, none⟩ = some v) ∧ (∀ i : Nat, i < 256 → w.frozen? ⟨b, i, none⟩ = false) ∧
  (∀ i : Nat, i < m → w.cell? ⟨b, i, none⟩ = some (.int .u32 (Crc.d8 i : Nat))) ∧ Below B w0 w
theorem Tab.put {B b m : Nat} {w0 w : World} (h : Tab B b m w0 w) (hB : B ≤ b) (hm : m < 256) : Tab B b (m + 1) w0 (w.setCell ⟨b, m, none⟩ (.int .u32 (Crc.d8 m : Nat))) := by
  obtain ⟨h1, h2, h3, h4⟩ := h
  obtain ⟨v, hv⟩ := h1 m hm
  refine ⟨fun i hi => ?_, fun i hi => ?_, fun i hi => ?_, h4.setCell hB _⟩
  · obtain ⟨u, hu⟩ := h1 i hi
    exact cell?_setCell_some hu
  · rw [World.frozen?_setCell]; exact h2 i hi
  · by_cases he : i = m
    · subst he; exact World.cell?_setCell_same _ _ _ hv
    · rw [World.cell?_setCell_other _ _ _ _ (by intro hh; simp only [Addr.mk.injEq] at hh; omega)]; exact h3 i (by omega)
theorem Tab.drew {B b m : Nat} {w0 w : World} (h : Tab B b m w0 w) : Tab B b m w0 w.drew :=
  ⟨h.1, h.2.1, h.2.2.1, h.2.2.2.drew⟩
set_option maxRecDepth 100000 in
theorem fill_any (B b : Nat) (w : World) (hB : B ≤ b) (h1 : ∀ i : Nat, i < 256 → ∃ v, w.cell? ⟨b, i, none⟩ = some v) (h2 : ∀ i : Nat, i < 256 → w.frozen? ⟨b, i, none⟩ = false)
    (h3 : w.cell? ⟨b, 0, none⟩ = some (.int .u32 0)) :
    Calls Try.prog 89 #[.pointer (some ⟨b, 0, none⟩)] w fun e w' => e = .returned (.tuple #[]) ∧ Tab B b 256 w w' := by
  have hT : Tab B b (2 ^ 0) w w := ⟨h1, h2, fun i hi => (by
    obtain rfl : i = 0 := Nat.lt_one_iff.1 hi
    exact h3), Below.refl _ _⟩
  have HT := Lib.hid hT; clear h1 h2 h3 hT
  go_enter Try.func89, Try.ntmps89
  go_wp2
  go_loopw [2] (fun x wr => ∃ k : Nat, k ≤ 8 ∧ x = .int .i64 (2 ^ k : Nat) ∧ Tab B b (2 ^ k) w wr) (fun x _ => 256 - (intOf x).toNat)
  case atStart => exact ⟨0, by omega, rfl, HT.out⟩
  case round =>
    obtain ⟨k, hk, rfl, ht⟩ := hrel
    clear HT
    have HT := Lib.hid ht; clear ht
    by_cases hlt : k < 8
    · have hp : 2 ^ k ≤ 128 := by
        have : 2 ^ k ≤ 2 ^ 7 := Nat.pow_le_pow_right (by omega) (by omega)
        omega
      have hp1 : 0 < 2 ^ k := Nat.two_pow_pos k
      have hs : (2 : Nat) ^ (k + 1) = 2 ^ k * 2 := Nat.pow_succ ..
      have HS := Lib.hid hs; clear hs
      have hd : ∀ rest, rest < 2 ^ k → Crc.d8 (2 ^ k + rest) = Crc.d8 (2 ^ k) ^^^ Crc.d8 rest := fun rest => d8_add k rest
      have HD := Lib.hid hd; clear hd
      generalize 2 ^ k = p at *
      have hp0 : (p : Int) < 256 := by omega
      obtain ⟨wo, rfl⟩ : ∃ wo : World, wo = wr := ⟨_, rfl⟩
      go_wp2_with (go_at_call 94; refine (eight_any p _ (by omega)).mono ?_; rintro e w' ⟨rfl, rfl⟩)
      go_loopw [13] (fun i wi => ∃ j : Nat, j ≤ p ∧ i = .int .i64 j ∧ Tab B b (p + j) w wi) (fun i _ => p - (intOf i).toNat)
      case atStart => exact ⟨0, by omega, rfl, HT.out⟩
      case round =>
        obtain ⟨j, hj, rfl, ht⟩ := hrel
        by_cases hjlt : j < p
        · have hput := ht.put hB (by omega)
          have HP := Lib.hid hput; clear hput
          obtain ⟨t1, t2, t3, t4⟩ := ht
          have g1 := t3 j (by omega)
          obtain ⟨v, g2⟩ := t1 (p + j) (by omega)
          have g3 := t2 (p + j) (by omega)
          have e1 : bits .xor .u32 ((Crc.d8 p : Nat) : Int) ((Crc.d8 j : Nat) : Int) = ((Crc.d8 (p + j) : Nat) : Int) := by
            rw [HD.out j hjlt]; exact bits_xor32 _ _ (Crc.d8_lt (by omega)) (Crc.d8_lt (by omega))
          clear t1 t2 t3 t4 HT
          have hj0 : (j : Int) < 256 := by omega
          have hpj0 : (p : Int) + (j : Int) < 256 := by omega
          have hpj1 : ((p : Int) + (j : Int)).toNat = p + j := by omega
          go_wp2
          go_region
          go_wp2
          go_roundw
          case rel => exact ⟨j + 1, by omega, by go_num, HP.out.drew⟩
          case measure => simp [intOf]; omega
        · obtain rfl : j = p := by omega
          clear HT
          have HT := Lib.hid ht; clear ht
          go_wp2
          go_roundw
          case rel => exact ⟨k + 1, by omega, by rw [HS.out]; go_num, by rw [HS.out, Nat.mul_two]; exact HT.out⟩
          case measure => simp [intOf]; omega
    · obtain rfl : k = 8 := by omega
      go_wp2
      go_returns
      exact ⟨rfl, HT.out⟩
end Go.Proofs.Ytajfcnaifegonaa
/- Sum: walks: the sum. -/
namespace Go.Proofs.Ytajfcnaifegonaa
open Go.RowKit Go.By
theorem zero33 (w : World) : (zeroValue 157).run Try.prog w = .ok (.agg (Array.replicate 256 (.int .u32 0))) w := by kernel_rfl
theorem Tab.start (w : World) (Z : Array Value) (hz : Z = Array.replicate 256 (.int .u32 0)) :
    (∀ i : Nat, i < 256 → ∃ v, (w.alloc (.cells Z 157)).cell? ⟨w.heap.size, i, none⟩ = some v) ∧ (∀ i : Nat, i < 256 → (w.alloc (.cells Z 157)).frozen? ⟨w.heap.size, i, none⟩ = false) ∧
    (w.alloc (.cells Z 157)).cell? ⟨w.heap.size, 0, none⟩ = some (.int .u32 0) := by
  refine ⟨fun i hi => ⟨.int .u32 0, ?_⟩, fun i _ => World.frozen?_alloc_new w Z 157 i, ?_⟩
  · rw [World.cell?_alloc_new, hz]; simp [hi]
  · rw [World.cell?_alloc_new, hz]; simp
set_option maxRecDepth 100000 in
theorem sum_any (v : Value) (l : List Nat) (w : World) (hv : Bytes w v l) :
    Calls Try.prog 78 #[v] w fun e w' => e = .returned (.int .u32 (Crc.sum l : Nat)) ∧ Below w.heap.size w w' := by
  obtain ⟨p, cap, rfl, hc⟩ := hv.any
  have hs := hv.small
  have hm := hv.short
  clear hv
  unfold maxLen at hm
  have HC := Lib.hid hc; clear hc
  have HS := Lib.hid hs; clear hs
  have hz := zero33
  obtain ⟨Z, hZ⟩ : ∃ Z, Z = Array.replicate 256 (Value.int .u32 0) := ⟨_, rfl⟩
  rw [← hZ] at hz
  have HZ := Lib.hid hZ; clear hZ
  go_enter Try.func78, Try.ntmps78
  go_wp2_with fail
  refine (fill_any w.heap.size w.heap.size _ (Nat.le_refl _) (Tab.start w Z HZ.out).1 (Tab.start w Z HZ.out).2.1 (Tab.start w Z HZ.out).2.2).mono ?_
  rintro e w1 ⟨rfl, hT⟩
  have HT := Lib.hid hT; clear hT
  go_wp2
  go_loop [5, 12] (fun x i => ∃ k : Nat, k ≤ l.length ∧ i = .int .i64 k ∧ x = .int .u32 (Crc.raw 4294967295 (l.take k) : Nat)) (fun _ i => l.length - (intOf i).toNat)
  case atStart => exact ⟨0, by omega, rfl, rfl⟩
  case round =>
    obtain ⟨k, hk, rfl, rfl⟩ := hrel
    have hlt4 := Crc.raw_lt (l.take k) 4294967295 (by omega) (fun c hc => HS.out c (List.mem_of_mem_take hc))
    by_cases hlt : k < l.length
    · obtain ⟨b, off, rfl, hcell⟩ := HC.out k hlt
      have hb : b < w.heap.size := block_lt_of_cell hcell
      have hcell1 : w1.cell? ⟨b, off + k, none⟩ = some (.int .u8 (atB l k : Nat)) := by
        rw [HT.out.2.2.2.cell (p := ⟨b, off + k, none⟩) (by simp; omega), World.cell?_alloc_lt _ _ _ (by simpa using hb)]; exact hcell
      have hc : atB l k < 256 := HS.out _ (by rw [atB_of hlt]; exact List.getElem_mem hlt)
      have hr : Crc.raw 4294967295 (l.take (k + 1)) = Crc.step (Crc.raw 4294967295 (l.take k)) (atB l k) := by
        rw [List.take_succ_eq_append_getElem hlt, Crc.raw_snoc, atB_of hlt]
      have HR := Lib.hid hr
      have HN := Lib.hid (next_any w.heap.size (Crc.raw 4294967295 (l.take k)) (atB l k) w1 hlt4 hc HT.out.2.2.1)
      clear hr hcell hlt4 hc
      go_wp2_with fail
      refine HN.out.mono ?_
      rintro e w2 ⟨rfl, rfl⟩
      go_wp2
      go_round
      case rel => exact ⟨k + 1, by omega, by go_num, by rw [HR.out]⟩
      case measure => simp [intOf]; omega
    · obtain rfl : k = l.length := by omega
      rw [List.take_length] at hlt4 ⊢
      have e1 : bits .xor .u32 4294967295 ((Crc.raw 4294967295 l : Nat) : Int) = ((Crc.sum l : Nat) : Int) := by
        unfold Crc.sum
        rw [Nat.xor_comm, ← bits_xor32 _ _ (by omega) hlt4]; rfl
      have hB : Below w.heap.size w w1 := ((Below.refl _ _).alloc (Nat.le_refl _) _).trans HT.out.2.2.2
      have HB := Lib.hid hB; clear hB
      have E1 := Lib.hid e1; clear e1
      clear hlt4
      go_wp2
      go_ret
      exact ⟨ret_int E1.out, HB.out⟩
end Go.Proofs.Ytajfcnaifegonaa
/- rec: a number is put, a record is put. -/
namespace Go.Proofs.Ytajfcnaifegonaa.Rc
open Go Go.RowKit Go.By
theorem grownBy_alloc {w w' : World} {o : Obj} {r : Option Nat} (h : (w.alloc o).grownBy w' r) : w.grownBy w' r :=
  ⟨h.os, h.tape, h.output, by have := h.size; simp at this; omega, fun k hk hn => (h.block k (by simp; omega) hn).trans (Below.heap_alloc w o k hk)⟩
theorem owns_below {w w' : World} {base : Nat} {e : TypeId} {v : Value} {n : Nat} {xs : List Value} (h : w.ownsRow base e 1 v n xs) (hb : Below w.heap.size w w') : w'.ownsRow base e 1 v n xs :=
  ⟨h.1, by
    rcases h.2 with h2 | ⟨g, cap, cur, h1, h2, h3, h4⟩
    · exact .inl h2
    · exact .inr ⟨g, cap, cur, h1, h2, (hb.block g (Array.getElem?_eq_some_iff.1 h3).1).trans h3, h4⟩⟩
set_option maxRecDepth 100000 in
theorem putNumber_any (base : Nat) (v : Value) (l : List Nat) (n : Nat) (w : World) (hv : w.ownsRow base 5 1 v l.length (cellsOf l)) (hb : base ≤ w.heap.size) (hn : n < 4294967296) (hl : l.length ≤ 17592186044416) :
    Calls Try.prog 77 #[v, .int .u32 n] w fun e w' => ∃ v', e = .returned v' ∧ w'.ownsRow base 5 1 v' (l ++ highOf n 4).length (cellsOf (l ++ highOf n 4)) ∧ w.grownBy w' v.ownBlock := by
  have HV := Lib.hid hv; clear hv
  obtain ⟨p, cap, hveq⟩ : ∃ p cap, v = .slice p l.length cap := by
    rcases HV.out.2 with ⟨h, h2⟩ | ⟨g, c, _, h, _⟩
    · exact ⟨none, 0, by rw [h]; congr 1; omega⟩
    · exact ⟨_, c, by rw [h]⟩
  subst hveq
  go_enter Try.func77, Try.ntmps77
  go_wp2_with (at_builtin; go_loud (refine wpList_append_bytes rfl (.tmp 5) (.tmp 17) byT rfl base (.slice p l.length cap) l.length (cellsOf l) rfl (HV.out.alloc _) (.slice (some ⟨w.heap.size, 0, none⟩) 4 4) (highOf n 4) rfl (Bytes.lit (highOf n 4) (by rw [high4]; simp [cellsOf]; omega) (by rw [highOf_length]) (highOf_small _ _) (by rw [highOf_length]; decide)) (by rw [highOf_length]; omega) (by simp; omega) ?_); intro v1 w1 hown hgrow hnil)
  have hown1 : w1.ownsRow base 5 1 v1 (l ++ highOf n 4).length (cellsOf (l ++ highOf n 4)) := by
    rw [List.length_append, cellsOf_append]; exact hown
  have HO := Lib.hid hown1
  have HG := Lib.hid (grownBy_alloc hgrow)
  obtain ⟨p1, c1, rfl⟩ : ∃ p c, v1 = .slice p (l ++ highOf n 4).length c := by
    rcases hown1.2 with ⟨h, h2⟩ | ⟨g, c, _, h, _⟩
    · exact ⟨none, 0, by rw [h]; congr 1; omega⟩
    · exact ⟨_, c, by rw [h]⟩
  clear hown hown1 hgrow hnil
  go_wp2
  go_ret
  exact ⟨_, rfl, HO.out, HG.out⟩
def zeros (n : Nat) : Array Value := (cellsOf (List.replicate n 0)).toArray
theorem zeros_size (n : Nat) : (zeros n).size = n := by simp [zeros, cellsOf]
theorem made_run (m c : Nat) (M C : Int) (hM : M = m) (hC : C = c) (hmc : m ≤ c) (hc : c < 1099511627776) (w : World) : (Instr.makeSlice 31 (.int .i64 M) (.int .i64 C)).run Try.prog w = .ok (.slice (some ⟨w.heap.size, 0, none⟩) m c) (w.alloc (.cells (zeros c) 5)) := by
  subst hM hC
  obtain ⟨i, hi, hz, hz1, hz2⟩ := info_parts byT.info
  have h := run_make (P := Try.prog) (w := w) 31 5 i (.int .u8 0) byT.slice hi hz .i64 .i64 (m : Int) (c : Int) (by omega) (by omega) (by rw [hz2]; omega) (by omega)
  rw [h]
  have e : madeCells (Value.int .u8 0).cells ((c : Int).toNat * i.size) = zeros c := by
    rw [hz1]
    apply Array.toList_inj.1
    apply List.ext_getElem
    · simp [madeCells, cellsOf, zeros]
    · intro j h1 h2
      simp [madeCells, cellsOf, zeros, Value.cells, Nat.mod_one]
  rw [e]; simp
set_option maxRecDepth 100000 in
theorem put_any (k : Nat) (v : Value) (l : List Nat) (w : World) (hk : k < 256) (hv : Bytes w v l) (hl : l.length ≤ 4096) :
    Calls Try.prog 60 #[.int .u8 k, v] w fun e w' => ∃ v', e = .returned (.tuple #[v', .int .i64 0]) ∧ w'.ownsRow w.heap.size 5 1 v' (recOf k l).length (cellsOf (recOf k l)) ∧ Below w.heap.size w w' := by
  obtain ⟨p, cap, rfl, _⟩ := hv.any
  have HV := Lib.hid hv; clear hv
  have hmk := made_run 0 (9 + l.length) 0 (9 + (l.length : Int)) rfl (by omega) (by omega) (by omega)
  go_enter Try.func60, Try.ntmps60
  go_wp2_with fail
  clear hmk
  refine (putNumber_any w.heap.size _ [] l.length _ (World.ownsRow_made w (zeros (9 + l.length)) (9 + l.length) (Nat.le_refl _) (by unfold maxLen; omega) (by rw [zeros_size, Nat.mul_one])) (by simp) (by omega) (by simp)).mono ?_
  rintro e w1 ⟨v1, rfl, ho1, hg1⟩
  have HO1 := Lib.hid ho1
  have HB1 : Hid (Below w.heap.size w w1) := ((Below.refl _ _).alloc (Nat.le_refl _) _).grown hg1 (by simp) (by simp [Value.ownBlock])
  clear ho1 hg1
  rw [List.nil_append] at HO1
  have hsz1 := HB1.out.size
  have hhl := highOf_length l.length 4
  go_wp2_with (at_builtin; first
    | (refine wpList_append_bytes rfl (.tmp 19) (.tmp 21) byT rfl w.heap.size v1 (highOf l.length 4).length (cellsOf (highOf l.length 4)) rfl (HO1.out.alloc _) (.slice (some ⟨w1.heap.size, 0, none⟩) 1 1) [k] rfl (Bytes.one rfl hk) (by rw [highOf_length]; simp) (by simp; omega) ?_; intro v2 w2 hown2 hgrow2 _
       have HO2 := Lib.hid hown2; have HG2 := Lib.hid (grownBy_alloc hgrow2); have hsz2 := HG2.out.size; clear hown2 hgrow2)
    | (refine wpList_append_bytes rfl (.tmp 23) (.tmp 24) byT rfl w.heap.size v2 ((highOf l.length 4).length + [k].length) (cellsOf (highOf l.length 4) ++ cellsOf [k]) rfl HO2.out (.slice p l.length cap) l rfl (HV.out.below (HB1.out.grown HG2.out hsz1 (fun j hj => (HO1.out.lt j hj).1))) (by rw [highOf_length]; simp; omega) (by omega) ?_; intro v3 w3 hown3 hgrow3 _))
  have hown3' : w3.ownsRow w.heap.size 5 1 v3 (recHead k l).length (cellsOf (recHead k l)) := by
    have e1 : (recHead k l).length = (highOf l.length 4).length + [k].length + l.length := by rw [recHead_length, highOf_length]; simp
    have e2 : cellsOf (recHead k l) = cellsOf (highOf l.length 4) ++ cellsOf [k] ++ cellsOf l := by rw [recHead, cellsOf_append, cellsOf_append, List.append_assoc]
    rw [e1, e2]; exact hown3
  have hb3 : Below w.heap.size w w3 := (HB1.out.grown HG2.out hsz1 (fun j hj => (HO1.out.lt j hj).1)).grown hgrow3 (by omega) (fun j hj => (HO2.out.lt j hj).1)
  have HO3 := Lib.hid hown3'
  have HB3 := Lib.hid hb3
  clear hown3 hgrow3 hown3' hb3 HO1 HB1 HO2 HG2 hsz1 hsz2 hhl
  obtain ⟨p3, c3, rfl⟩ : ∃ p c, v3 = .slice p (recHead k l).length c := by
    rcases HO3.out.2 with ⟨h, h2⟩ | ⟨g, c, _, h, _⟩
    · exact ⟨none, 0, by rw [h]; congr 1; omega⟩
    · exact ⟨_, c, by rw [h]⟩
  have hsm := Lib.hid (recHead_small hk HV.out.small)
  go_wp2_with fail
  refine (sum_any _ (recHead k l) w3 (Bytes.of_owns HO3.out hsm.out (by rw [recHead_length]; unfold maxLen; omega))).mono ?_
  rintro e w4 ⟨rfl, hb4⟩
  have HO4 : Hid (w4.ownsRow w.heap.size 5 1 (.slice p3 (recHead k l).length c3) (recHead k l).length (cellsOf (recHead k l))) := owns_below HO3.out hb4
  have HB4 : Hid (Below w.heap.size w w4) := HB3.out.trans (hb4.mono HB3.out.size)
  have hcs : Hid (Crc.sum (recHead k l) < 4294967296) := Crc.sum_lt _ hsm.out
  clear hb4 HO3 HB3
  go_wp2_with fail
  refine (putNumber_any w.heap.size _ (recHead k l) _ w4 HO4.out HB4.out.size hcs.out (by rw [recHead_length]; omega)).mono ?_
  rintro e w5 ⟨v5, rfl, ho5, hg5⟩
  have HO5 := Lib.hid ho5
  have HB5 : Hid (Below w.heap.size w w5) := HB4.out.grown hg5 HB4.out.size (fun j hj => (HO4.out.lt j hj).1)
  clear ho5 hg5
  go_wp2
  go_ret2
  exact ⟨_, rfl, HO5.out, HB5.out⟩
end Go.Proofs.Ytajfcnaifegonaa.Rc
/- rec: the reader. -/
namespace Go.Proofs.Ytajfcnaifegonaa.Rc
open Go Go.RowKit Go.By
theorem bytT_size (w : World) : (sizeOf (Try.prog.elem 31)).run Try.prog w = .ok 1 w := by kernel_rfl
theorem piece_run {w : World} {p : Option Addr} {cap : Nat} {l : List Nat} (h : Bytes w (.slice p l.length cap) l) (i n : Nat) (hn : i + n ≤ l.length) :
    ∃ q c, (∀ w0 : World, (Instr.slice 31 (.slice p l.length cap) (some (.int .i64 (i : Int))) (some (.int .i64 ((i : Int) + (n : Int)))) none).run Try.prog w0 = .ok (.slice q n c) w0) ∧ Bytes w (.slice q n c) (pc l i n) := by
  have hcap := h.room.2
  have hr := fun w0 => run_slice_lh (P := Try.prog) w0 31 p l.length cap (by kernel_rfl) .i64 .i64 (i : Int) ((i : Int) + (n : Int)) (by omega) (by omega) (by omega)
  have e1 : ((i : Int) + (n : Int)).toNat = i + n := by omega
  have e2 : (i : Int).toNat = i := by omega
  simp only [bytT_size, Result.andThen, e1, e2, sliced, Nat.add_sub_cancel_left, Nat.mul_one] at hr
  refine ⟨_, _, hr, ?_⟩
  have hpl := pc_length hn
  rcases h.out with ⟨h1, rfl⟩ | ⟨a, h1, rfl⟩ | ⟨b, off, cap', h1, h2, hc⟩
  · simp only [Value.slice.injEq] at h1
    obtain ⟨rfl, _, rfl⟩ := h1
    simp only [List.length_nil] at hn
    obtain rfl : i = 0 := by omega
    obtain rfl : n = 0 := by omega
    simpa [pc] using Bytes.nil w
  · simp only [Value.slice.injEq] at h1
    obtain ⟨rfl, _, rfl⟩ := h1
    simp only [List.length_nil] at hn
    obtain rfl : i = 0 := by omega
    obtain rfl : n = 0 := by omega
    simp only [↓reduceIte, Nat.sub_zero, pc, List.drop_nil, List.take_nil]
    exact ⟨.inr (.inl ⟨a, rfl, rfl⟩), by simp, by simp⟩
  · simp only [Value.slice.injEq, true_and] at h1
    obtain ⟨rfl, rfl⟩ := h1
    by_cases he : cap = i
    · obtain rfl : n = 0 := by omega
      rw [if_pos he]
      subst he
      simp only [Nat.sub_self, pc, List.take_zero]
      exact ⟨.inr (.inl ⟨_, rfl, rfl⟩), by simp, by simp⟩
    · rw [if_neg he]
      refine ⟨.inr (.inr ⟨b, off + i, cap - i, by simp [Addr.add_lit, hpl], by rw [hpl]; omega, fun j hj => ?_⟩), pc_small h.small, by rw [hpl]; have := h.short; omega⟩
      rw [hpl] at hj
      rw [Nat.add_assoc, hc (i + j) (by omega), pc_at hj]
theorem cells_of {w : World} {a : Nat} {c : Array Value} {t : TypeId} {fr : Nat × Nat} (h : w.heap[a]? = some (.cells c t fr)) (i : Nat) : w.cell? ⟨a, i, none⟩ = c[i]? := cell_of_row w a i c t fr h
theorem free_of {w : World} {a : Nat} {c : Array Value} {t : TypeId} (h : w.heap[a]? = some (.cells c t (0, 0))) (i : Nat) : w.frozen? ⟨a, i, none⟩ = false := frozen_of_row w a i c t h
theorem set_heap {w : World} {a : Nat} {c : Array Value} {t : TypeId} (h : w.heap[a]? = some (.cells c t (0, 0))) (i : Nat) (v : Value) :
    (w.setCell ⟨a, i, none⟩ v).heap[a]? = some (.cells (c.setIfInBounds i v) t (0, 0)) := heap_setCell_same w a i c t v h
end Go.Proofs.Ytajfcnaifegonaa.Rc
/- rec: the reader's numbers and parts. -/
namespace Go.Proofs.Ytajfcnaifegonaa.Rc
open Go Go.RowKit Go.By
set_option maxRecDepth 100000 in
theorem upto_run (p : Option Addr) (len cap n : Nat) (hn : n ≤ cap) (w : World) : (Instr.slice 31 (.slice p len cap) none (some (.int .i64 (n : Int))) none).run Try.prog w = .ok (.slice p n cap) w := by
  have hr := run_slice_h (P := Try.prog) w 31 p len cap (by kernel_rfl) .i64 (n : Int) (by omega) (by omega)
  have e2 : (n : Int).toNat = n := by omega
  simp only [bytT_size, Result.andThen, e2, sliced, Nat.zero_mul, Nat.sub_zero] at hr
  rw [hr]
  congr 2
  split
  · rfl
  · cases p with
    | none => rfl
    | some a => simp [Addr.add]
theorem upto_runI (p : Option Addr) (len cap n : Nat) (N : Int) (hN : N = n) (hn : n ≤ cap) (w : World) : (Instr.slice 31 (.slice p len cap) none (some (.int .i64 N)) none).run Try.prog w = .ok (.slice p n cap) w := by
  subst hN; exact upto_run p len cap n hn w
end Go.Proofs.Ytajfcnaifegonaa.Rc
/- Sum: walks: the document's sum. -/
namespace Go.Proofs.Ytajfcnaifegonaa
open Go.RowKit Go.By
theorem half_step (R x : Nat) : (if ((R % 2 != x % 2) : Bool) then R / 2 ^^^ 2197175160 else R / 2) ^^^ x / 2 = Crc.d1 (R ^^^ x) := by
  unfold Crc.d1
  rw [Crc.half_xor, Crc.odd_xor]
  rcases Nat.mod_two_eq_zero_or_one R with h | h <;> rcases Nat.mod_two_eq_zero_or_one x with g | g <;> rw [h, g]
  · rfl
  · show R / 2 ^^^ 2197175160 ^^^ x / 2 = R / 2 ^^^ x / 2 ^^^ 2197175160
    rw [Nat.xor_assoc, Nat.xor_comm 2197175160, Nat.xor_assoc]
  · show R / 2 ^^^ 2197175160 ^^^ x / 2 = R / 2 ^^^ x / 2 ^^^ 2197175160
    rw [Nat.xor_assoc, Nat.xor_comm 2197175160, Nat.xor_assoc]
  · rfl
set_option maxRecDepth 100000 in
theorem ref_any (v : Value) (l : List Nat) (w : World) (hv : Bytes w v l) :
    Calls Try.prog 70 #[v] w fun e w' => e = .returned (.int .u32 (Crc.sum l : Nat)) ∧ w = w' := by
  obtain ⟨p, cap, rfl, hc⟩ := hv.any
  have hs := hv.small
  have hm := hv.short
  clear hv
  unfold maxLen at hm
  have HC := Lib.hid hc; clear hc
  have HS := Lib.hid hs; clear hs
  go_enter Try.func70, Try.ntmps70
  go_wp2
  go_loop [3, 4] (fun x i => ∃ k : Nat, k ≤ l.length ∧ i = .int .i64 k ∧ x = .int .u32 (Crc.raw 4294967295 (l.take k) : Nat)) (fun _ i => l.length - (intOf i).toNat)
  case atStart => exact ⟨0, by omega, rfl, rfl⟩
  case round =>
    obtain ⟨k, hk, rfl, rfl⟩ := hrel
    have hlt4 := Crc.raw_lt (l.take k) 4294967295 (by omega) (fun c hc => HS.out c (List.mem_of_mem_take hc))
    by_cases hlt : k < l.length
    · obtain ⟨b, off, rfl, hcell⟩ := HC.out k hlt
      have hc : atB l k < 256 := HS.out _ (by rw [atB_of hlt]; exact List.getElem_mem hlt)
      have hr : Crc.raw 4294967295 (l.take (k + 1)) = Crc.step (Crc.raw 4294967295 (l.take k)) (atB l k) := by
        rw [List.take_succ_eq_append_getElem hlt, Crc.raw_snoc, atB_of hlt]
      have HR := Lib.hid hr; clear hr
      have H4 := Lib.hid hlt4; clear hlt4
      have HL := Lib.hid hlt
      go_wp2
      clear hcell
      have HCC := Lib.hid hc; clear hc
      go_loop [3, 5, 6] (fun x y i => ∃ j R : Nat, j ≤ 8 ∧ i = .int .i64 j ∧ y = .int .u32 (atB l k / 2 ^ j : Nat) ∧ x = .int .u32 R ∧ R < 4294967296 ∧ R ^^^ atB l k / 2 ^ j = d1s j (Crc.raw 4294967295 (l.take k) ^^^ atB l k)) (fun _ _ i => 8 - (intOf i).toNat)
      case atStart => exact ⟨0, _, by omega, rfl, by rw [Nat.pow_zero, Nat.div_one], rfl, H4.out, by rw [Nat.pow_zero, Nat.div_one]; rfl⟩
      case round =>
        obtain ⟨j, R, hj, rfl, rfl, rfl, hR, hd⟩ := hrel
        by_cases hj8 : j < 8
        · have hx : atB l k / 2 ^ j < 256 := Nat.lt_of_le_of_lt (Nat.div_le_self _ _) HCC.out
          have hx2 : atB l k / 2 ^ (j + 1) = atB l k / 2 ^ j / 2 := by rw [Nat.pow_succ, Nat.div_div_eq_div_mul]
          generalize atB l k / 2 ^ j = X at *
          have hd' : (if ((R % 2 != X % 2) : Bool) then R / 2 ^^^ 2197175160 else R / 2) ^^^ X / 2 = d1s (j + 1) (Crc.raw 4294967295 (l.take k) ^^^ atB l k) := by
            rw [half_step, hd]; rfl
          have HD := Lib.hid hd'; clear hd' hd
          have HXD := Lib.hid hx2; clear hx2
          have e3 : bits .xor .u32 ((R : Int) / 2) 2197175160 = ((R / 2 ^^^ 2197175160 : Nat) : Int) := by
            rw [← bits_xor32 _ _ (by omega) (by omega)]; rfl
          have hlt' : (R / 2 ^^^ 2197175160 : Nat) < 4294967296 := Nat.xor_lt_two_pow (n := 32) (by omega) (by omega)
          have HLT := Lib.hid hlt'; clear hlt'
          have hb : (((R : Int) % 2 != (X : Int) % 2) : Bool) = ((R % 2 != X % 2) : Bool) := by
            rw [Bool.eq_iff_iff]; simp; omega
          cases hbb : (R % 2 != X % 2) <;> rw [hbb] at hb
          · have HBB := Lib.hid hbb; clear hbb
            go_wp2
            go_round
            case rel => exact ⟨j + 1, R / 2, by omega, by go_num, by rw [HXD.out]; rfl, rfl, by omega, by have := HD.out; rw [HBB.out] at this; rw [HXD.out]; exact this⟩
            case measure => simp [intOf]; omega
          · have HBB := Lib.hid hbb; clear hbb
            go_wp2
            go_round
            case rel => exact ⟨j + 1, R / 2 ^^^ 2197175160, by omega, by go_num, by rw [HXD.out]; rfl, rfl, HLT.out, by have := HD.out; rw [HBB.out] at this; rw [HXD.out]; exact this⟩
            case measure => simp [intOf]; omega
        · obtain rfl : j = 8 := by omega
          have hr8 : R = Crc.raw 4294967295 (l.take (k + 1)) := by
            rw [HR.out]
            rw [show atB l k / 2 ^ 8 = 0 from Nat.div_eq_of_lt HCC.out, Nat.xor_zero, d1s_8] at hd
            exact hd
          have HR8 := Lib.hid hr8; clear hr8 hd
          go_wp2
          go_round
          case rel => exact ⟨k + 1, by omega, by go_num, by rw [HR8.out]⟩
          case measure => simp [intOf]; omega
    · obtain rfl : k = l.length := by omega
      rw [List.take_length] at hlt4 ⊢
      have e1 : bits .xor .u32 4294967295 ((Crc.raw 4294967295 l : Nat) : Int) = ((Crc.sum l : Nat) : Int) := by
        unfold Crc.sum
        rw [Nat.xor_comm, ← bits_xor32 _ _ (by omega) hlt4]; rfl
      have E1 := Lib.hid e1; clear e1
      clear hlt4
      go_wp2
      go_ret
      exact ⟨ret_int E1.out, rfl⟩
end Go.Proofs.Ytajfcnaifegonaa
