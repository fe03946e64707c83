/- Keys: a number is laid. -/
import Derived.Test.YtfebdgnojacoiaaKeyA
namespace Go.Proofs.Ytfebdgnojacoiaa
open Go Go.RowKit Go.By

theorem highOf_at (n : Nat) : ∀ (v k : Nat), k < n → (highOf v n)[k]? = some (v / 256 ^ (n - 1 - k) % 256) := by
  induction n with
  | zero => intro v k h; omega
  | succ n ih =>
    intro v k h
    rw [highOf]
    by_cases hk : k < n
    · rw [List.getElem?_append_left (by rw [highOf_length]; exact hk), ih _ _ hk, Nat.div_div_eq_div_mul, show n + 1 - 1 - k = (n - 1 - k) + 1 by omega, Nat.pow_succ, Nat.mul_comm]
    · obtain rfl : k = n := by omega
      rw [List.getElem?_append_right (by rw [highOf_length]; omega), highOf_length]
      simp
theorem highOf_take {v n k : Nat} (h : k < n) : (highOf v n).take (k + 1) = (highOf v n).take k ++ [v / 256 ^ (n - 1 - k) % 256] := by
  have hl : k < (highOf v n).length := by rw [highOf_length]; exact h
  rw [List.take_succ_eq_append_getElem hl]
  have := highOf_at n v k h
  rw [List.getElem?_eq_getElem hl] at this
  rw [Option.some.inj this]

/-- The parts, in the block that a method lays them in. -/
def BoxAt (w : World) (g : Nat) (c : Nat) (s : ByteArray) (n : Int) : Prop := w.heap[g]? = some (.cells #[.int .u8 c, .string s, .int .i64 n] 40 (0, 0))

def NumRel (w0 : World) (base : Nat) (c : Nat) (s : ByteArray) (n : Nat) (l : List Nat) (x i : Value) (w : World) : Prop :=
  ∃ k : Nat, k ≤ 8 ∧ i = .int .i64 k ∧ w.ownsRow base 5 1 x (l ++ (highOf n 8).take k).length (cellsOf (l ++ (highOf n 8).take k)) ∧ Below base w0 w ∧ BoxAt w w0.heap.size c s n

set_option maxRecDepth 100000 in
theorem putNumber_any (c : Nat) (s : ByteArray) (n : Nat) (hn : n < 9223372036854775808) (v : Value) (l : List Nat) (base : Nat) (w : World) (hv : w.ownsRow base 5 1 v l.length (cellsOf l)) (hl : l.length ≤ 1000) (hb : base ≤ w.heap.size) :
    Calls Try.prog 32 #[.agg #[.int .u8 c, .string s, .int .i64 n], v] w (Lays w base (l ++ highOf n 8)) := by
  have hn1 : (n : Int) ≤ 9223372036854775807 := by omega
  have HN := Lib.hid hn; clear hn
  have h0 : NumRel w base c s n l v (.int .i64 (0 : Nat)) (w.alloc (.cells #[.int .u8 c, .string s, .int .i64 n] 40)) :=
    ⟨0, by omega, rfl, by simpa using hv.alloc _, (Below.refl _ _).alloc hb _, heap_alloc_new w _⟩
  have H0 := Lib.hid h0
  clear h0 hv
  go_enter Try.func32, Try.ntmps32
  go_wp2
  go_loopw [1, 10] (fun x i wr => NumRel w base c s n l x i wr) (fun _ i _ => 8 - (intOf i).toNat)
  case atStart => exact H0.out
  case round =>
    clear H0
    obtain ⟨k, hk, rfl, hown, hbel, hbox⟩ := hrel
    have hsz := hbel.size
    obtain ⟨p, cap, rfl⟩ := shape_of hown
    by_cases hlt : k < 8
    · obtain ⟨j, hj⟩ : ∃ j, j = 7 - k := ⟨_, rfl⟩
      have hj1 : (7 : Int) - (k : Int) = j := by omega
      have hcell : wr.cell? ⟨w.heap.size, 2, none⟩ = some (.int .i64 n) := cells_of hbox 2
      have hsh : (n : Int) / 2 ^ (8 * (j : Int)).toNat = ((n / 256 ^ j : Nat) : Int) := by
        have : (8 * (j : Int)).toNat = 8 * j := by omega
        rw [this, show 256 ^ j = 2 ^ (8 * j) by rw [Nat.pow_mul], Int.natCast_ediv, Int.natCast_pow]
        rfl
      have htk := highOf_take (v := n) hlt
      rw [show 8 - 1 - k = j by omega] at htk
      have hxn : n / 256 ^ j ≤ n := Nat.div_le_self _ _
      have hw8 : IntKind.u8.wrap ((n / 256 ^ j : Nat) : Int) = ((n / 256 ^ j % 256 : Nat) : Int) := by rw [IntKind.wrap_u8]; omega
      generalize hx : n / 256 ^ j = x at *
      have hx1 : (x : Int) ≤ 9223372036854775807 := by omega
      have hlen : (l ++ (highOf n 8).take k).length ≤ 1008 := by rw [List.length_append, List.length_take]; omega
      have HT : Hid (l ++ (highOf n 8).take (k + 1) = (l ++ (highOf n 8).take k) ++ [x % 256]) := by unfold Hid; rw [htk, List.append_assoc]
      generalize hm : l ++ (highOf n 8).take k = m at *
      have HO := Lib.hid hown; have HB := Lib.hid hbel; have HX := Lib.hid hbox
      have hlm : (m.length : Int) ≤ 1008 := by omega
      have hbs : base ≤ wr.heap.size := by omega
      have hjl : (j : Int) ≤ 7 := by omega
      clear hown hbel hbox htk hxn hx hm hj hlen
      go_wp2_with (at_builtin; go_loud (refine wpList_append_bytes rfl (.tmp 13) (.tmp 21) byT rfl base (.slice p m.length cap) m.length (cellsOf m) rfl (HO.out.alloc _) (.slice (some ⟨wr.heap.size, 0, none⟩) 1 1) [x % 256] rfl (Bytes.one (by omega) (by omega)) (by simp; omega) (by simp; omega) ?_); intro v2 w2 hown2 hgrow2 hnil2)
      have hne : ∀ b, (Value.slice p m.length cap).ownBlock = some b → b ≠ w.heap.size := fun b hb he => by
        rcases HO.out.2 with ⟨h, _⟩ | ⟨g, c1, cur, h, _, hg, _⟩
        · rw [h] at hb; simp [Value.ownBlock] at hb
        · rw [h] at hb
          simp only [Value.ownBlock, Option.some.injEq] at hb
          subst hb
          rw [he] at hg
          have := HX.out
          unfold BoxAt at this
          rw [hg] at this
          simp only [Option.some.injEq, Obj.cells.injEq] at this
          exact absurd this.2.1 (by decide)
      have hb2 : Below base w w2 := (HB.out.alloc hbs _).grown hgrow2 (by simp; omega) (fun j hj => (HO.out.lt j hj).1)
      have hx2 : BoxAt w2 w.heap.size c s n := by
        unfold BoxAt
        have hlt2 : w.heap.size < wr.heap.size := by have := (Array.getElem?_eq_some_iff.1 HX.out).1; exact this
        rw [hgrow2.block w.heap.size (by simp; omega) (fun e => hne _ e.symm rfl)]
        exact (Below.heap_alloc wr _ _ hlt2).trans HX.out
      have ho2 : w2.ownsRow base 5 1 v2 (m ++ [x % 256]).length (cellsOf (m ++ [x % 256])) := by
        rw [List.length_append, cellsOf_append]; exact hown2
      rw [← HT.out] at ho2
      have hrel2 : NumRel w base c s n l v2 (.int .i64 (k + 1 : Nat)) w2 := ⟨k + 1, by omega, rfl, ho2, hb2, hx2⟩
      have HR := Lib.hid hrel2
      clear hown2 hgrow2 hnil2 hne hb2 hx2 ho2 hrel2
      go_wp2
      go_roundw
      case rel => exact HR.out
      case measure => simp [intOf]; omega
    · obtain rfl : k = 8 := by omega
      rw [List.take_of_length_le (by rw [highOf_length]; omega)] at hown
      have HO := Lib.hid hown; have HB := Lib.hid hbel
      clear hown hbel hbox
      go_wp2
      go_ret2
      exact ⟨_, rfl, by simpa [List.length_take, highOf_length] using HO.out, HB.out⟩
end Go.Proofs.Ytfebdgnojacoiaa

