/- slot: what Put, Take and Better tell of slots; slot has begun. -/
import Derived.Test.YtjkbhlfgkpopdaaRefT
import Derived.Test.YtjkbhlfgkpopdaaKept
import Derived.Test.YtjkbhlfgkpopdaaLaw
namespace Go.Proofs.Ytjkbhlfgkpopdaa
open Go Go.RowKit Go.By

theorem bt_slots {g h : Nat} {b c : List Nat} (hb : b.length ≤ 113) (hc : c.length ≤ 113) (hbs : ∀ x ∈ b, x < 256) (hcs : ∀ x ∈ c, x < 256) (hg : g < 18446744073709551616) (hh : h < 18446744073709551616) :
    btWins (slotOf g b) (slotOf h c) = decide (g < h) := by
  unfold btWins
  rw [isSlot_slot hb hbs, isSlot_slot hc hcs, gen_slot hg, gen_slot hh]
  simp
theorem put_lit (G : Int) (g : Nat) (v : Value) (l : List Nat) (w : World) (hG : G = g) (hg : g < 18446744073709551616) (hv : Bytes w v l) (hl : l.length ≤ 113) :
    Calls Try.prog 8 #[.int .u64 G, v] w fun e w' => ∃ p c, e = .returned (.tuple #[.slice p 128 c, .int .i64 0]) ∧ Bytes w' (.slice p 128 c) (slotOf g l) ∧ Below w.heap.size w w' := by
  subst hG
  refine (put_any g v l w hg hv hl).mono ?_
  rintro e w' ⟨rfl, hF⟩
  exact ⟨_, _, rfl, (hF.sec (slotOf_length hl) (slotOf_small hl hv.small)).1, hF.2⟩
theorem better_lit (u v : Value) (a b : List Nat) (w : World) (W G E : Int) (m : List Nat) (n : Nat) (hu : Bytes w u a) (hv : Bytes w v b) (ha : a.length ≤ 17592186044416) (hb : b.length ≤ 17592186044416)
    (hW : (btWhich a b : Int) = W) (hG : (btGen a b : Int) = G) (hE : (btErr a b : Int) = E) (hm : btBody a b = m) (hn : m.length = n) :
    Calls Try.prog 12 #[u, v] w fun e w' => ∃ p c, e = .returned (.tuple #[.int .i64 W, .int .u64 G, .slice p n c, .int .i64 E]) ∧ Bytes w' (.slice p n c) m ∧ Below w.heap.size w w' := by
  subst hW hG hE hm hn
  exact better_all u v a b w hu hv ha hb
theorem take_none (l : List Nat) (sv : Value) (w : World) (hl : l.length ≤ 17592186044416) (hr : isSlot l = false) (hsv : Bytes w sv l) :
    Calls Try.prog 10 #[sv] w fun e w' => ∃ p c, e = .returned (.tuple #[.int .u64 0, .slice p 0 c, .int .i64 2]) ∧ Below w.heap.size w w' := by
  refine (take_all sv l w hsv hl).mono ?_
  rintro e w' ⟨p, c, rfl, _, hb⟩
  obtain ⟨e1, e2, e3⟩ := st_none hr
  rw [e1, e2, e3]
  exact ⟨p, c, rfl, hb⟩
theorem isSlot_nil : isSlot [] = false := isSlot_long (by decide)
def nought : List Nat := List.replicate 128 0
theorem nought_length : nought.length = 128 := List.length_replicate
theorem isSlot_nought : isSlot nought = false := by
  have h : spOk nought 1 = false := by
    unfold spOk nought
    rw [rep_split (show 128 = 2 + 126 from rfl)]
    rfl
  simp [isSlot, h]
theorem bt_none {a b : List Nat} (ha : isSlot a = false) (hb : isSlot b = false) : btWhich a b = 0 ∧ btGen a b = 0 ∧ btErr a b = 2 ∧ btBody a b = [] := by
  have hw : btWins a b = false := by unfold btWins; rw [hb]; rfl
  obtain ⟨e1, e2, e3, e4⟩ := bt_no hw
  obtain ⟨f1, f2, f3⟩ := st_none ha
  rw [e1, e2, e3, e4, f1, f2, f3]
  exact ⟨rfl, rfl, rfl, rfl⟩
theorem nought_bytes (w : World) : Bytes (w.alloc (.cells (zeros 128) 5)) (.slice (some ⟨w.heap.size, 0, none⟩) 128 128) nought := zeros_bytes w 128 (by decide)

set_option maxRecDepth 100000 in
theorem begun_any (w : World) : Calls Try.prog 6 #[] w fun e w' => e = .returned (.bool true) ∧ Below w.heap.size w w' := by
  have hcv := fun (w : World) (C : Array Value) (n c : Nat) => Lib.run_convert_bytes_const (P := Try.prog) w 23 5 C n c byT.slice byT.elem
  have hmk := made_run 128 128 128 128 rfl rfl (Nat.le_refl _) (by omega)
  have HMK := Lib.hid hmk; clear hmk
  go_enter Try.func6, Try.ntmps6
  go_wp2_with fail
  refine (put_lit 5 5 (.slice (some ⟨w.heap.size, 0, none⟩) 1 1) [120] _ rfl (by omega) (Bytes.lit _ rfl rfl (by decide) (by decide)) (by decide)).mono ?_
  rintro e w1 ⟨p1, c1, rfl, hy1, hb1⟩
  have HY1 := Lib.hid hy1
  have HB1 : Hid (Below w.heap.size w w1) := ((Below.refl _ _).alloc (Nat.le_refl _) _).trans (hb1.mono (by simp))
  clear hy1 hb1
  go_wp2_with fail
  have hba : ∀ o, Below w1.heap.size w1 (w1.alloc o) := fun o => (Below.refl _ _).alloc (Nat.le_refl _) o
  refine (put_lit 6 6 (.slice (some ⟨w1.heap.size, 0, none⟩) 1 1) [121] _ rfl (by omega) (Bytes.lit _ rfl rfl (by decide) (by decide)) (by decide)).mono ?_
  rintro e w2 ⟨p2, c2, rfl, hy2, hb2⟩
  have hb12 : Below w1.heap.size w1 w2 := (hba _).trans (hb2.mono (by simp))
  have HY12 := Lib.hid (HY1.out.below hb12)
  have HY2 := Lib.hid hy2
  have HB2 : Hid (Below w.heap.size w w2) := HB1.out.trans (hb12.mono HB1.out.size)
  clear hy2 hb2 hb12 hba HY1 HB1 hcv
  go_wp2_with fail
  have hwin : btWins (slotOf 5 [120]) (slotOf 6 [121]) = true := bt_slots (by decide) (by decide) (by decide) (by decide) (by omega) (by omega)
  obtain ⟨b1, b2, b3, b4⟩ := bt_yes hwin
  obtain ⟨s1, s2, s3⟩ := st_slot (g := 6) (b := [121]) (by decide) (by decide) (by omega)
  refine (better_lit _ _ (slotOf 5 [120]) (slotOf 6 [121]) w2 1 6 0 [121] 1 HY12.out HY2.out (by rw [slotOf_length (by decide)]; omega) (by rw [slotOf_length (by decide)]; omega) (by rw [b1]; rfl) (by rw [b2, s2]; rfl) (by rw [b4]; rfl) (by rw [b3, s3]) rfl).mono ?_
  rintro e w3 ⟨p3, c3, rfl, hy3, hb3⟩
  have HY3 := Lib.hid hy3
  have HB3 : Hid (Below w.heap.size w w3) := HB2.out.trans (hb3.mono HB2.out.size)
  clear hy3 hb3 HB2 HY12 HY2 hwin b1 b2 b3 b4 s1 s2 s3
  have hmk := HMK.out
  go_wp2_with fail
  clear hmk HMK
  obtain ⟨n1, n2, n3, n4⟩ := bt_none isSlot_nought isSlot_nil
  have hba : Below w3.heap.size w3 (w3.alloc (.cells (zeros 128) 5)) := (Below.refl _ _).alloc (Nat.le_refl _) _
  have hHY3 := HY3.out.below hba
  have hHB3 := HB3.out.alloc HB3.out.size (.cells (zeros 128) 5)
  refine (better_lit _ _ nought [] _ 0 0 2 [] 0 (nought_bytes w3) (Bytes.nil _) (by rw [nought_length]; omega) (by simp) (by rw [n1]; rfl) (by rw [n2]; rfl) (by rw [n3]; rfl) n4 rfl).mono ?_
  rintro e w4 ⟨p4, c4, rfl, _, hb4⟩
  have HY4 := Lib.hid (hHY3.below hb4)
  have HB4 : Hid (Below w.heap.size w w4) := hHB3.trans (hb4.mono hHB3.size)
  clear hb4 hba hHY3 hHB3 HB3 HY3 n1 n2 n3 n4
  go_wp2_with fail
  refine (take_none [] (.slice none 0 0) w4 (by decide) isSlot_nil (Bytes.nil _)).mono ?_
  rintro e w5 ⟨p5, c5, rfl, hb5⟩
  have HB5 : Hid (Below w.heap.size w w5) := HB4.out.trans (hb5.mono HB4.out.size)
  have c1 := (HY4.out.below hb5).toString byT (P := Try.prog) (d := 9) (by kernel_rfl)
  rw [show strOf [121] = ⟨#[121]⟩ from rfl] at c1
  clear hb5
  go_wp2
  go_ret
  exact ⟨rfl, HB5.out⟩
end Go.Proofs.Ytjkbhlfgkpopdaa
