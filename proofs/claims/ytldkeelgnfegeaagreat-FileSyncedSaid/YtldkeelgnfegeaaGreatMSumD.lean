/- Sum: walks: the sum. -/
import Derived.Test.YtldkeelgnfegeaaGreatMSumC
import Derived.Test.YtldkeelgnfegeaaGreatBy

namespace Go.Proofs.YtldkeelgnfegeaaGreat
open Go.RowKit Go.By

theorem zero33 (w : World) : (zeroValue 147).run Tryz.prog w = .ok (.agg (Array.replicate 256 (.int .u32 0))) w := by kernel_rfl

theorem Tab.start (w : World) (Z : Array Value) (hz : Z = Array.replicate 256 (.int .u32 0)) :
    (∀ i : Nat, i < 256 → ∃ v, (w.alloc (.cells Z 147)).cell? ⟨w.heap.size, i, none⟩ = some v) ∧ (∀ i : Nat, i < 256 → (w.alloc (.cells Z 147)).frozen? ⟨w.heap.size, i, none⟩ = false) ∧
    (w.alloc (.cells Z 147)).cell? ⟨w.heap.size, 0, none⟩ = some (.int .u32 0) := by
  refine ⟨fun i hi => ⟨.int .u32 0, ?_⟩, fun i _ => World.frozen?_alloc_new w Z 147 i, ?_⟩
  · rw [World.cell?_alloc_new, hz]; simp [hi]
  · rw [World.cell?_alloc_new, hz]; simp

set_option maxRecDepth 100000 in
theorem sum_any (v : Value) (l : List Nat) (w : World) (hv : Bytes w v l) :
    Calls Tryz.prog 72 #[v] w fun e w' => e = .returned (.int .u32 (Crc.sum l : Nat)) ∧ Below w.heap.size w w' := by
  obtain ⟨p, cap, rfl, hc⟩ := hv.any
  have hs := hv.small
  have hm := hv.short
  clear hv
  unfold maxLen at hm
  have HC := Lib.hid hc; clear hc
  have HS := Lib.hid hs; clear hs
  have hz := zero33
  obtain ⟨Z, hZ⟩ : ∃ Z, Z = Array.replicate 256 (Value.int .u32 0) := ⟨_, rfl⟩
  rw [← hZ] at hz
  have HZ := Lib.hid hZ; clear hZ
  go_enter Tryz.func72, Tryz.ntmps72
  go_wp2_with fail
  refine (fill_any w.heap.size w.heap.size _ (Nat.le_refl _) (Tab.start w Z HZ.out).1 (Tab.start w Z HZ.out).2.1 (Tab.start w Z HZ.out).2.2).mono ?_
  rintro e w1 ⟨rfl, hT⟩
  have HT := Lib.hid hT; clear hT
  go_wp2
  go_loop [5, 12] (fun x i => ∃ k : Nat, k ≤ l.length ∧ i = .int .i64 k ∧ x = .int .u32 (Crc.raw 4294967295 (l.take k) : Nat)) (fun _ i => l.length - (intOf i).toNat)
  case atStart => exact ⟨0, by omega, rfl, rfl⟩
  case round =>
    obtain ⟨k, hk, rfl, rfl⟩ := hrel
    have hlt4 := Crc.raw_lt (l.take k) 4294967295 (by omega) (fun c hc => HS.out c (List.mem_of_mem_take hc))
    by_cases hlt : k < l.length
    · obtain ⟨b, off, rfl, hcell⟩ := HC.out k hlt
      have hb : b < w.heap.size := block_lt_of_cell hcell
      have hcell1 : w1.cell? ⟨b, off + k, none⟩ = some (.int .u8 (atB l k : Nat)) := by
        rw [HT.out.2.2.2.cell (p := ⟨b, off + k, none⟩) (by simp; omega), World.cell?_alloc_lt _ _ _ (by simpa using hb)]; exact hcell
      have hc : atB l k < 256 := HS.out _ (by rw [atB_of hlt]; exact List.getElem_mem hlt)
      have hr : Crc.raw 4294967295 (l.take (k + 1)) = Crc.step (Crc.raw 4294967295 (l.take k)) (atB l k) := by
        rw [List.take_succ_eq_append_getElem hlt, Crc.raw_snoc, atB_of hlt]
      have HR := Lib.hid hr
      have HN := Lib.hid (next_any w.heap.size (Crc.raw 4294967295 (l.take k)) (atB l k) w1 hlt4 hc HT.out.2.2.1)
      clear hr hcell hlt4 hc
      go_wp2_with fail
      refine HN.out.mono ?_
      rintro e w2 ⟨rfl, rfl⟩
      go_wp2
      go_round
      case rel => exact ⟨k + 1, by omega, by go_num, by rw [HR.out]⟩
      case measure => simp [intOf]; omega
    · obtain rfl : k = l.length := by omega
      rw [List.take_length] at hlt4 ⊢
      have e1 : bits .xor .u32 4294967295 ((Crc.raw 4294967295 l : Nat) : Int) = ((Crc.sum l : Nat) : Int) := by
        unfold Crc.sum
        rw [Nat.xor_comm, ← bits_xor32 _ _ (by omega) hlt4]; rfl
      have hB : Below w.heap.size w w1 := ((Below.refl _ _).alloc (Nat.le_refl _) _).trans HT.out.2.2.2
      have HB := Lib.hid hB; clear hB
      have E1 := Lib.hid e1; clear e1
      clear hlt4
      go_wp2
      go_ret
      exact ⟨ret_int E1.out, HB.out⟩

end Go.Proofs.YtldkeelgnfegeaaGreat
