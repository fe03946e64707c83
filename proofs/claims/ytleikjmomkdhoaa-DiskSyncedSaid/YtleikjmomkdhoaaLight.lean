/- The law's 'light': it answers, turns nothing, and behind a yes the bytes of each deed are few. -/
import Derived.Test.YtleikjmomkdhoaaDeeds
import Derived.Test.YtleikjmomkdhoaaDskBF
import Derived.Deep.QuietTactic
import Derived.BigQuiet
import Derived.Handy
namespace Go.Proofs.Ytleikjmomkdhoaa
open Go Go.RowKit Go.By

def Lit (n : Nat) (T : Nat → DeedV) (w : World) (e : Ending) (w' : World) : Prop := ∃ b, e = .returned (.bool b) ∧ Below w.heap.size w w' ∧ (b = true → ∀ i, i < n → (T i).bytes.length ≤ 400)

set_option maxRecDepth 100000 in
set_option maxHeartbeats 4000000 in
theorem light_any (p : Option Addr) (n cap : Nat) (T : Nat → DeedV) (w : World) (h : Deeds w p n cap T) :
    Calls Try.prog 8 #[.slice p n cap] w (Lit n T w) := by
  have HD := Lib.hid h
  have hn : (n : Int) ≤ 9223372036854775807 := by have := h.le; have := h.most; unfold maxLen at this; omega
  clear h
  go_enter Try.func8, Try.ntmps8
  go_wp2
  go_loopw [3] (fun x wr => ∃ k : Nat, x = .int .i64 k ∧ k ≤ n ∧ Below w.heap.size w wr ∧ ∀ i, i < k → (T i).bytes.length ≤ 400) (fun x _ => n - (intOf x).toNat)
  case atStart => exact ⟨0, rfl, by omega, Below.refl _ _, fun i hi => by omega⟩
  case round =>
    obtain ⟨k, rfl, hk, hb, hall⟩ := hrel
    by_cases hlt : k < n
    · have hki : (k : Int) < n := by omega
      have hd := HD.out.below hb
      obtain ⟨lb, lo, rfl, c0, c1, c2, c3, c4, c5⟩ := hd.at_ k hlt
      obtain ⟨b5, b2, b3, _⟩ := hd.wf k hlt
      obtain ⟨q, c, hv, _⟩ := b5.any
      rw [hv] at c5
      have hbs := b5.short
      have HB := Lib.hid hb; have HALL := Lib.hid hall
      obtain ⟨bl, hbl0⟩ : ∃ bl, bl = (T k).bytes.length := ⟨_, rfl⟩
      rw [← hbl0] at c5 hbs
      have HBL := Lib.hid hbl0.symm
      clear hbl0
      clear hb hall hd b5 hv HD
      have hz2 : (T k).name.size ≤ maxLen := b2
      have hz3 : (T k).to.size ≤ maxLen := b3
      generalize (T k).name = nm at *
      generalize (T k).to = tm at *
      generalize (T k).off = of at *
      generalize (T k).num = nu at *
      clear b2 b3 hz2 hz3
      by_cases h1 : (400 : Int) < bl
      · have hd1 : decide ((400 : Int) < bl) = true := decide_eq_true h1
        go_wp2
        go_ret
        exact ⟨false, rfl, HB.out, by simp⟩
      have hd1 : decide ((400 : Int) < bl) = false := decide_eq_false h1
      by_cases h2 : (3000 : Int) < of
      · have hd2 : decide ((3000 : Int) < of) = true := decide_eq_true h2
        go_wp2
        go_ret
        exact ⟨false, rfl, HB.out, by simp⟩
      have hd2 : decide ((3000 : Int) < of) = false := decide_eq_false h2
      by_cases h3 : (30 : Int) < nm.size
      · have hd3 : decide ((30 : Int) < nm.size) = true := decide_eq_true h3
        go_wp2
        go_ret
        exact ⟨false, rfl, HB.out, by simp⟩
      have hd3 : decide ((30 : Int) < nm.size) = false := decide_eq_false h3
      by_cases h4 : (30 : Int) < tm.size
      · have hd4 : decide ((30 : Int) < tm.size) = true := decide_eq_true h4
        go_wp2
        go_ret
        exact ⟨false, rfl, HB.out, by simp⟩
      have hd4 : decide ((30 : Int) < tm.size) = false := decide_eq_false h4
      by_cases h5 : (1099511627776 : Int) < nu
      · have hd5 : decide ((1099511627776 : Int) < nu) = true := decide_eq_true h5
        go_wp2
        go_ret
        exact ⟨false, rfl, HB.out, by simp⟩
      have hd5 : decide ((1099511627776 : Int) < nu) = false := decide_eq_false h5
      have hbl : bl ≤ 400 := by omega
      go_wp2
      go_roundw
      case rel =>
        refine ⟨k + 1, by go_num, by omega, HB.out, fun i hi => ?_⟩
        by_cases e : i = k
        · rw [e, HBL.out]; exact hbl
        · exact HALL.out i (by omega)
      case measure => simp [intOf]; omega
    · have hki : ¬ (k : Int) < n := by omega
      obtain rfl : k = n := by omega
      have HB := Lib.hid hb; have HALL := Lib.hid hall
      clear hb hall
      go_wp2
      go_ret
      exact ⟨_, rfl, HB.out, fun _ => HALL.out⟩
end Go.Proofs.Ytleikjmomkdhoaa
