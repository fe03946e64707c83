/- Rows of items in a program: it has begun. -/
import Derived.Test.YtnbnnonjbjbbkaaLfD
import Derived.Test.YtnbnnonjbjbbkaaLfE
import Derived.Test.YtnbnnonjbjbbkaaLfF
import Derived.Test.YtnbnnonjbjbbkaaLfG
import Derived.Test.YtnbnnonjbjbbkaaLits
import Derived.Test.YtnbnnonjbjbbkaaLaw
import Derived.Lib.SlBytesConst
import Derived.Lib.SmallJoins
namespace Go.Proofs.Ytnbnnonjbjbbkaa
open Go Go.RowKit Go.By

set_option maxRecDepth 100000 in
set_option maxHeartbeats 1000000 in
theorem begun_any (w : World) : Calls Try.prog 5 #[] w fun e w' => e = .returned (.bool true) ∧ Below w.heap.size w w' := by
  obtain ⟨W, hW⟩ : ∃ W, W = allocs w [.cells #[.int .u8 97] 5 (1, 2), .cells #[.slice (some ⟨w.heap.size, 0, none⟩) 1 1, .slice none 0 0] 36, .cells #[.int .u8 98] 5 (1, 2), .cells #[.int .u8 120] 5 (1, 2), .cells #[.slice (some ⟨w.heap.size + 1 + 1, 0, none⟩) 1 1, .slice (some ⟨w.heap.size + 1 + 1 + 1, 0, none⟩) 1 1, .bool false] 29] := ⟨_, rfl⟩
  have hb : Below w.heap.size w W := by rw [hW]; exact allocs_below _ _
  have b0 : Bytes W (.slice (some ⟨w.heap.size, 0, none⟩) 1 1) [97] := bytes_at [97] (by rw [hW]; exact allocs_at (i := 0) rfl) rfl rfl (by decide) (by decide)
  have b2 : Bytes W (.slice (some ⟨w.heap.size + 1 + 1, 0, none⟩) 1 1) [98] := bytes_at [98] (by rw [hW]; exact allocs_at (i := 2) rfl) rfl rfl (by decide) (by decide)
  have b3 : Bytes W (.slice (some ⟨w.heap.size + 1 + 1 + 1, 0, none⟩) 1 1) [120] := bytes_at [120] (by rw [hW]; exact allocs_at (i := 3) rfl) rfl rfl (by decide) (by decide)
  have hI : RowAt KItem W (some ⟨w.heap.size + 1, 0, none⟩) 1 [⟨[97], []⟩] := RowAt.lit (css := [[.slice (some ⟨w.heap.size, 0, none⟩) 1 1, .slice none 0 0]]) (by rw [hW]; exact allocs_at (i := 1) rfl) rfl (.cons (KItem.mk b0 (Bytes.nil _)) .nil) rfl (by decide)
  have hC : RowAt KChange W (some ⟨w.heap.size + 1 + 1 + 1 + 1, 0, none⟩) 1 [⟨[98], [120], false⟩] := RowAt.lit (css := [[.slice (some ⟨w.heap.size + 1 + 1, 0, none⟩) 1 1, .slice (some ⟨w.heap.size + 1 + 1 + 1, 0, none⟩) 1 1, .bool false]]) (by rw [hW]; exact allocs_at (i := 4) rfl) rfl (.cons (KChange.mk rfl b2 b3) .nil) rfl (by decide)
  have HAP : Hid (∀ W', W' = W → Calls Try.prog 8 #[.slice (some ⟨w.heap.size + 1, 0, none⟩) 1 1, .slice (some ⟨w.heap.size + 1 + 1 + 1 + 1, 0, none⟩) 1 1] W' (ItemsTold W [⟨[97], []⟩, ⟨[98], [120]⟩])) := fun W' e => by
    subst e
    exact apply_any _ 1 [⟨[97], []⟩] _ 1 [⟨[98], [120], false⟩] W' hI hC (by intro i hi; simp at hi; subst hi; exact ⟨by decide, by decide⟩) (by intro i hi; simp at hi; subst hi; exact ⟨by decide, by decide⟩) (by decide)
  have HW := Lib.hid hW; have HB := Lib.hid hb
  clear hW hb b0 b2 b3 hI hC
  have hcv0 := fun (w : World) (C : Array Value) (n c : Nat) => Lib.run_convert_bytes_const (P := Try.prog) w 27 5 C n c byT.slice byT.elem
  have hcv1 := Go.Joins.run_convert_bytes_const_at (P := Try.prog) ((w.alloc (.cells #[.int .u8 97] 5 (1, 2))).alloc (.cells #[.slice (some ⟨w.heap.size, 0, none⟩) 1 1, .slice none 0 0] 36)) 27 5 #[.int .u8 98] 1 1 (w.heap.size + 1 + 1) (by simp) byT.slice byT.elem
  have hcv2 := Go.Joins.run_convert_bytes_const_at (P := Try.prog) (((w.alloc (.cells #[.int .u8 97] 5 (1, 2))).alloc (.cells #[.slice (some ⟨w.heap.size, 0, none⟩) 1 1, .slice none 0 0] 36)).alloc (.cells #[.int .u8 98] 5 (1, 2))) 27 5 #[.int .u8 120] 1 1 (w.heap.size + 1 + 1 + 1) (by simp) byT.slice byT.elem
  go_enter Try.func5, Try.ntmps5
  go_wp2_with fail
  clear hcv0 hcv1 hcv2
  refine (HAP.out _ (by rw [HW.out]; rfl)).mono ?_
  rintro z w2 ⟨v2, rfl, hit, hb2⟩
  obtain ⟨p2, c2, rfl, hrow⟩ := hit.at_
  simp only [List.length_cons, List.length_nil, Nat.zero_add, Nat.reduceAdd] at hrow ⊢
  have HB2 : Hid (Below w.heap.size w w2) := HB.out.trans (hb2.mono HB.out.size)
  have HI2 := Lib.hid hrow
  clear hit hb2 hrow HB HAP HW
  go_wp2_with fail
  refine (groups_any 9 w2 (by decide) (by decide)).mono ?_
  rintro z w3 ⟨p3, c3, rfl, ho3, hb3⟩
  have e9 : groupsOf 9 = [5, 4] := by decide
  rw [e9] at ho3 ⊢
  simp only [List.length_cons, List.length_nil, Nat.zero_add, Nat.reduceAdd] at ho3 ⊢
  have HO3 := Lib.hid ho3
  have HB3 : Hid (Below w.heap.size w w3) := HB2.out.trans (hb3.mono HB2.out.size)
  have hb3' : Below w3.heap.size w3 (w3.alloc (.cells #[.int .u8 98] 5 (1, 2))) := (Below.refl _ _).alloc (Nat.le_refl _) _
  have b4 : Bytes (w3.alloc (.cells #[.int .u8 98] 5 (1, 2))) (.slice (some ⟨w3.heap.size, 0, none⟩) 1 1) [98] := bytes_at [98] (heap_alloc_new w3 _) rfl rfl (by decide) (by decide)
  have HFI := Lib.hid (find_any p2 c2 [⟨[97], []⟩, ⟨[98], [120]⟩] _ [98] _ ((HI2.out.below hb3).below hb3') b4)
  rw [show belowN [98] [⟨[97], []⟩, ⟨[98], [120]⟩] = 1 from by decide, show isThere [98] [⟨[97], []⟩, ⟨[98], [120]⟩] = true from by decide] at HFI
  simp only [List.length_cons, List.length_nil, Nat.zero_add, Nat.reduceAdd] at HFI
  have HI3 := Lib.hid ((HI2.out.below hb3).below hb3')
  have HB33 := Lib.hid hb3'
  clear ho3 hb3 hb3' b4 e9 HI2 HB2
  have hcv3 := fun (w : World) (C : Array Value) (n c : Nat) => Lib.run_convert_bytes_const (P := Try.prog) w 27 5 C n c byT.slice byT.elem
  go_wp2_with fail
  clear hcv3
  refine HFI.out.mono ?_
  rintro z w4 ⟨rfl, hb4⟩
  have hb34 : Below w3.heap.size w3 w4 := HB33.out.trans (hb4.mono HB33.out.size)
  have HB4 : Hid (Below w.heap.size w w4) := HB3.out.trans (hb34.mono HB3.out.size)
  obtain ⟨lb, lo, hp, hat⟩ := (HI3.out.below hb4).some (by decide)
  subst hp
  obtain ⟨cs, hcs, a, b, rfl, ha, hbv⟩ := hat 1 (by decide)
  obtain ⟨e0, e1⟩ := hcs.two
  simp only [KItem, Nat.one_mul] at e0 e1
  simp only [List.getElem_cons_succ, List.getElem_cons_zero] at ha hbv
  have hsx := hbv.toString (P := Try.prog) byT (d := 9) (by kernel_rfl)
  rw [show strOf [120] = ⟨#[120]⟩ by decide +kernel] at hsx
  obtain ⟨pb, cb, rfl, -⟩ := hbv.any
  obtain ⟨pa, ca, rfl, -⟩ := ha.any
  simp only [List.length_cons, List.length_nil, Nat.zero_add] at e0 e1 hsx
  obtain ⟨g5, cg5, hv5, _, _, hat5⟩ := owns_at HO3.out (by decide)
  obtain ⟨rfl, rfl⟩ : p3 = g5 ∧ c3 = cg5 := by simpa using hv5
  obtain ⟨gb, rfl, hc5⟩ := hat5 0 (.int .i64 5) rfl
  have hc6 := (hb34.cell (p := ⟨gb, 0 + 0, none⟩) (block_lt_of_cell hc5)).trans hc5
  simp only [Nat.add_zero] at hc6
  obtain ⟨W4, hW4⟩ : ∃ W, W = allocs w4 [.cells #[.int .u8 97] 5 (1, 2), .cells #[.slice (some ⟨w4.heap.size, 0, none⟩) 1 1, .slice none 0 0, .bool false] 29] := ⟨_, rfl⟩
  have hbW4 : Below w4.heap.size w4 W4 := by rw [hW4]; exact allocs_below _ _
  have d0 : Bytes W4 (.slice (some ⟨w4.heap.size, 0, none⟩) 1 1) [97] := bytes_at [97] (by rw [hW4]; exact allocs_at (i := 0) rfl) rfl rfl (by decide) (by decide)
  have hC : RowAt KChange W4 (some ⟨w4.heap.size + 1, 0, none⟩) 1 [⟨[97], [], false⟩] := RowAt.lit (css := [[.slice (some ⟨w4.heap.size, 0, none⟩) 1 1, .slice none 0 0, .bool false]]) (by rw [hW4]; exact allocs_at (i := 1) rfl) rfl (.cons (KChange.mk rfl d0 (Bytes.nil _)) .nil) rfl (by decide)
  have HRI := Lib.hid (rising_any _ 1 [⟨[97], [], false⟩] W4 hC)
  rw [show risesCh [] [⟨[97], [], false⟩] = true from by decide] at HRI
  simp only [List.length_cons, List.length_nil, Nat.zero_add] at HRI
  have HBW4 : Hid (Below w.heap.size w W4) := HB4.out.trans (hbW4.mono HB4.out.size)
  have HW4 := Lib.hid hW4
  clear hb4 hb34 hcs ha hbv hv5 hat5 hc5 hat HI3 HFI HB33 HB3 HO3 HB4 hbW4 d0 hC hW4
  have hcv4 := fun (w : World) (C : Array Value) (n c : Nat) => Lib.run_convert_bytes_const (P := Try.prog) w 27 5 C n c byT.slice byT.elem
  go_wp2_with fail
  clear hcv4
  refine Calls.mono (w := _) (by have := HRI.out; rw [HW4.out] at this; exact this) ?_
  rintro z w5 ⟨rfl, hb5⟩
  have HB5 : Hid (Below w.heap.size w w5) := HBW4.out.trans ((by rw [HW4.out]; exact hb5 : Below W4.heap.size W4 w5).mono HBW4.out.size)
  clear hb5 HRI HW4 HBW4 e0 e1 hsx hc6
  have hb6 : Below w5.heap.size w5 (w5.alloc (.cells #[.slice none 0 0, .slice none 0 0, .bool false] 29)) := (Below.refl _ _).alloc (Nat.le_refl _) _
  have hC : RowAt KChange (w5.alloc (.cells #[.slice none 0 0, .slice none 0 0, .bool false] 29)) (some ⟨w5.heap.size, 0, none⟩) 1 [⟨[], [], false⟩] := RowAt.lit (css := [[.slice none 0 0, .slice none 0 0, .bool false]]) (heap_alloc_new w5 _) rfl (.cons (KChange.mk rfl (Bytes.nil _) (Bytes.nil _)) .nil) rfl (by decide)
  have HRI := Lib.hid (rising_any _ 1 [⟨[], [], false⟩] _ hC)
  rw [show risesCh [] [⟨[], [], false⟩] = false from by decide] at HRI
  simp only [List.length_cons, List.length_nil, Nat.zero_add] at HRI
  have HB6 : Hid (Below w.heap.size w (w5.alloc (.cells #[.slice none 0 0, .slice none 0 0, .bool false] 29))) := HB5.out.trans (hb6.mono HB5.out.size)
  clear hb6 hC HB5
  go_wp2_with fail
  refine HRI.out.mono ?_
  rintro z w7 ⟨rfl, hb7⟩
  have HB7 : Hid (Below w.heap.size w w7) := HB6.out.trans (hb7.mono HB6.out.size)
  clear hb7 HRI HB6
  go_wp2
  go_ret
  exact ⟨rfl, HB7.out⟩
end Go.Proofs.Ytnbnnonjbjbbkaa

