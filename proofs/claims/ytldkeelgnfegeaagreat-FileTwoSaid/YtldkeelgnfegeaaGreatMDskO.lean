/- The disk: hasRoom, Truncate. -/
import Derived.Test.YtldkeelgnfegeaaGreatMDskN
import Derived.Deep.RegionHeld3

namespace Go.Proofs.YtldkeelgnfegeaaGreat
open Go Go.RowKit Go.By

def DiskA.hasRoom (D : DiskA) (n : Nat) (size : Int) : Bool := decide (size - ((D.cont n).seen.length : Int) ≤ 0) || decide (size - ((D.cont n).seen.length : Int) ≤ D.room - D.used)

set_option maxRecDepth 100000 in
theorem hasRoom_any (own : Own) (a n fb : Nat) (D : DiskA) (size : Int) (w : World) (h : DiskIs w own a D) (hn : Mp.get D.fm n = some fb) (hr : 0 ≤ D.room ∧ D.room ≤ 9223372036854775807) (hu : 0 ≤ D.used ∧ D.used ≤ 4611686018427387904) (hsz : 0 ≤ size ∧ size ≤ 4611686018427387904) :
    Calls Tryz.prog 49 #[.pointer (some ⟨a, 0, none⟩), .pointer (some ⟨fb, 0, none⟩), .int .i64 size] w fun e w' => e = .returned (.bool (D.hasRoom n size)) ∧ w'.heap = w.heap ∧ DiskIs w' own a D ∧ Steps own own w w' := by
  have hfin : ∀ q, (w.drewN q).heap = w.heap ∧ DiskIs (w.drewN q) own a D ∧ Steps own own w (w.drewN q) := fun q => by
    have hh : (w.drewN q).heap = w.heap := rfl
    have hst : Steps own own w (w.drewN q) := ⟨rfl, rfl, rfl, Nat.le_refl _, fun k _ _ => rfl, fun _ _ => rfl⟩
    exact ⟨hh, h.turn (fun k _ => rfl) (Nat.le_refl _) (fun ms mk mf lv q1 q2 => ⟨ms, mk, mf, lv, q1, q2⟩), hst⟩
  have HFIN := Lib.hid hfin; clear hfin
  obtain ⟨ms, mk, mf, lv, h1, h2⟩ := h.out
  obtain ⟨⟨sv, kv, lv', cs, f1, f2, f3, f4, f5, f6⟩, fr⟩ := h2.each n fb hn
  have g0 : w.cell? ⟨a, 0, none⟩ = some (.int .i64 D.room) := cells_of h1 0
  have g1 : w.cell? ⟨a, 1, none⟩ = some (.int .i64 D.used) := cells_of h1 1
  have g2 : w.cell? ⟨fb, 0, none⟩ = some sv := cells_of f1 0
  have hlen : (D.cont n).seen.length ≤ maxLen := by
    rcases f2.owns.2 with ⟨_, h2⟩ | ⟨g, cap, _, h, _, _, h2, h3, _⟩
    · omega
    · omega
  obtain ⟨ps, cps, rfl⟩ : ∃ p c, sv = .slice p (D.cont n).seen.length c := by
    rcases f2.owns.2 with ⟨h, h2⟩ | ⟨g, cap, _, h, _⟩
    · exact ⟨none, 0, by rw [h, h2]⟩
    · exact ⟨_, cap, h⟩
  have hm : ((D.cont n).seen.length : Int) ≤ 9223372036854775807 := by unfold maxLen at hlen; omega
  have hdef : D.hasRoom n size = (decide (size - ((D.cont n).seen.length : Int) ≤ 0) || decide (size - ((D.cont n).seen.length : Int) ≤ D.room - D.used)) := rfl
  have HDEF := Lib.hid hdef
  clear h h1 h2 f1 f2 f3 f4 f5 f6 fr hn hlen hdef
  obtain ⟨hr1, hr2⟩ := hr
  obtain ⟨hu1, hu2⟩ := hu
  obtain ⟨hs1, hs2⟩ := hsz
  generalize D.hasRoom n size = hb at *
  generalize (D.cont n).seen.length = len at *
  by_cases h1 : size - (len : Int) ≤ 0
  · have e : hb = true := by rw [HDEF.out]; simp [h1]
    subst e
    clear HDEF
    go_enter Tryz.func49, Tryz.ntmps49
    go_wp2
    go_quiet (fail)
    go_wp2
    go_ret
    exact ⟨rfl, HFIN.out _⟩
  · have hw : IntKind.i64.wrap (D.room - D.used) = D.room - D.used := IntWalk.i64_in _ (by omega)
    have d1 : decide (size - (len : Int) ≤ 0) = false := by simp [h1]
    by_cases h2 : size - (len : Int) ≤ D.room - D.used
    · have e : hb = true := by rw [HDEF.out]; simp [h2]
      subst e
      clear HDEF
      first
        | have d2 : decide (size - (len : Int) ≤ D.room - D.used) = true := decide_eq_true h2
        | have d2 : decide (size - (len : Int) ≤ D.room - D.used) = false := decide_eq_false h2
      go_enter Tryz.func49, Tryz.ntmps49
      go_wp2
      go_quiet (fail)
      go_wp2
      go_ret
      exact ⟨rfl, HFIN.out _⟩
    · have e : hb = false := by rw [HDEF.out]; simp [h1, h2]
      subst e
      clear HDEF
      first
        | have d2 : decide (size - (len : Int) ≤ D.room - D.used) = true := decide_eq_true h2
        | have d2 : decide (size - (len : Int) ≤ D.room - D.used) = false := decide_eq_false h2
      go_enter Tryz.func49, Tryz.ntmps49
      go_wp2
      go_quiet (fail)
      go_wp2
      go_ret
      exact ⟨rfl, HFIN.out _⟩
end Go.Proofs.YtldkeelgnfegeaaGreat
