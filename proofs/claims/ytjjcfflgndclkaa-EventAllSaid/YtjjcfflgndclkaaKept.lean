/- What was lent reads as it did. -/
import Derived.Test.YtjjcfflgndclkaaLoan
namespace Go.Proofs.Ytjjcfflgndclkaa
open Go.RowKit Go.By

theorem Lent.bytes {B : Nat} {w : World} {v : Value} {l : List Nat} (h : Lent B w v l) (hs : ∀ c ∈ l, c < 256) (hm : l.length ≤ maxLen) : Bytes w v l where
  out := by
    obtain ⟨g, cap, rfl, hown⟩ := h
    refine .inr <| .inr ⟨g, 0, cap, rfl, ?_, fun i hi => ?_⟩
    · rcases hown.2 with ⟨h, _⟩ | ⟨_, _, _, h1, _, _, h4, _⟩
      · cases h
      · cases h1; omega
    · have := hown.cells (g := g) rfl i (.int .u8 (atB l i : Nat)) (by rw [cellsOf_append, List.getElem?_append_left (by rw [cellsOf_length]; exact hi)]; exact cellsOf_get hi)
      rw [Addr.add_lit] at this
      exact this
  small := hs
  short := hm

set_option maxRecDepth 100000 in
theorem kept_any (B : Nat) (v u : Value) (l : List Nat) (w : World) (hv : Lent B w v l) (hu : Bytes w u l) (hm : l.length ≤ 140737488351232) :
    Calls Try.prog 16 #[v, u] w fun e w' => e = .returned (.bool true) ∧ w = w' := by
  have c1 := (hv.bytes hu.small hu.short).toString byT (P := Try.prog) (d := 9) (by kernel_rfl)
  have c2 := hu.toString byT (P := Try.prog) (d := 9) (by kernel_rfl)
  obtain ⟨p, cap2, hveq⟩ : ∃ p cap, u = .slice p l.length cap := let ⟨p, cap, h, _⟩ := hu.any; ⟨p, cap, h⟩
  subst hveq
  obtain ⟨g, cap, rfl, hown⟩ := hv
  have hc : ∀ i, i < 6 → w.cell? ⟨g, l.length + i, none⟩ = some (.int .u8 (224 + i : Nat)) := by
    intro i hi
    have := hown.cells (g := g) rfl (l.length + i) (.int .u8 (224 + i : Nat)) (by
      rw [cellsOf_append, List.getElem?_append_right (by rw [cellsOf_length]; omega), cellsOf_length, Nat.add_sub_cancel_left, cellsOf_get (by rw [tail_length]; exact hi)]
      unfold atB tail
      simp [hi])
    rw [Addr.add_lit] at this
    simpa using this
  obtain ⟨hcap, hcm⟩ : l.length + 6 ≤ cap ∧ cap ≤ maxLen := by
    rcases hown.2 with ⟨h, _⟩ | ⟨_, _, _, h1, _, _, h4, h5, _⟩
    · cases h
    · cases h1; exact ⟨h4, h5⟩
  unfold maxLen at hcm
  have HC := Lib.hid hc
  clear hu hown hc
  have hlen : l.length + 6 - l.length = 6 := by omega
  have hd : decide ((cap : Int) < (l.length : Int) + 6) = false := by simp; omega
  go_enter Try.func16, Try.ntmps16
  go_wp2
  clear hlen hd c1 c2
  go_loop [7] (fun i => ∃ k : Nat, k ≤ 6 ∧ i = .int .i64 k) (fun i => 6 - (intOf i).toNat)
  case atStart => exact ⟨0, by omega, rfl⟩
  case round =>
    obtain ⟨k, hk, rfl⟩ := hrel
    by_cases hlt : k < 6
    · have hck := HC.out k hlt
      have hn : ((224 + k : Nat) : Int) = 224 + (k : Int) := by omega
      rw [hn] at hck
      clear hn
      go_wp2
      go_round
      case rel => exact ⟨k + 1, by omega, by go_num⟩
      case measure => simp [intOf]; omega
    · go_wp2
      go_ret
      exact ⟨rfl, rfl⟩
end Go.Proofs.Ytjjcfflgndclkaa

