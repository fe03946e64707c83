/- A file of a disk: Create. -/
import Derived.Test.YtajfcnaifegonaaMFlE
import Derived.Test.YtajfcnaifegonaaMDskBG
namespace Go.Proofs.Ytajfcnaifegonaa
open Go Go.RowKit Go.By
theorem Dsk.remove {W w : World} {a : Nat} {S : Sk} {own : Own} (h : Dsk W a S own w) (hF : S.Fine) (s : ByteArray) (hs : s.size ≤ maxLen) :
    Calls Try.prog 30 #[.pointer (some ⟨a, 0, none⟩), .string s] w fun e w' => (∃ x, e = .returned (.int .i64 x)) ∧ ∃ own', Steps own own' w w' := by
  obtain ⟨D, hd, hok, rfl⟩ := h.out
  exact remove_any own a D s w hd hok hF.ops hF.left hs (by have := hF.used; exact ⟨by have := this.1; show _ ≤ D.sk.used; omega, this.2⟩) hF.short hF.laid
def Sk.made2 (S : Sk) (s : ByteArray) : Sk × Int := (S.create s).1.truncate s 256
def Sk.Made (W : World) (a : Nat) (s : ByteArray) (S2 : Sk) (x : Int) (S3 : Sk) (y : Int) (own : Own) (w : World) (e : Ending) (w' : World) : Prop :=
  ∃ own', Steps own own' w w' ∧
      ((x ≠ 0 ∧ e = .returned (.tuple #[.pointer none, .int .i64 x]) ∧ Dsk W a S2 own' w') ∨
       (x = 0 ∧ y ≠ 0 ∧ e = .returned (.tuple #[.pointer none, .int .i64 y])) ∨
       (x = 0 ∧ y = 0 ∧ ∃ g, w.heap.size ≤ g ∧ e = .returned (.tuple #[.pointer (some ⟨g, 0, none⟩), .int .i64 0]) ∧ Dsk W a S3 own' w' ∧ Fil W g a s 256 own' w'))
set_option maxRecDepth 100000 in
theorem fileCreate_any {W w : World} {a : Nat} {S : Sk} {own : Own} (hD : Dsk W a S own w) (hF : S.Fine) (s : ByteArray) (hF2 : (S.create s).2 = 0 → (S.create s).1.Fine ∧ (S.made2 s).1.Fine) (hs : s.size ≤ maxLen) :
    Calls Try.prog 16 #[.pointer (some ⟨a, 0, none⟩), .string s] w (Sk.Made W a s (S.create s).1 (S.create s).2 (S.made2 s).1 (S.made2 s).2 own w) := by
  have HC := Lib.hid (hD.create hF s hs)
  have hn := hD.below.size
  unfold Sk.made2 at hF2 ⊢
  have hsb : ∃ S2 x, S.create s = (S2, x) := ⟨_, _, rfl⟩
  obtain ⟨S2, x, hR⟩ := hsb
  rw [hR] at HC hF2 ⊢
  dsimp only at HC hF2 ⊢
  have HT : Hid (x = 0 → ∀ own2 w2, Dsk W a S2 own2 w2 → _) := fun hx own2 w2 h2 => h2.truncate (hF2 hx).1 s hs 256
  have hsb : ∃ S3 y, S2.truncate s 256 = (S3, y) := ⟨_, _, rfl⟩
  obtain ⟨S3, y, hR2⟩ := hsb
  rw [hR2] at HT hF2 ⊢
  dsimp only at HT hF2 ⊢
  have HRM : Hid (x = 0 → ∀ own3 w3, Dsk W a S3 own3 w3 → _) := fun hx own3 w3 h3 => h3.remove (hF2 hx).2 s hs
  clear hD hF hF2 hR hR2
  go_enter Try.func16, Try.ntmps16
  go_wp2_with fail
  refine HC.out.mono ?_
  rintro e w1 ⟨rfl, own1, hst1, hd1⟩
  have HST1 := Lib.hid hst1
  have HD1 := Lib.hid hd1
  have HT1 : Hid (x = 0 → _) := fun hx => HT.out hx own1 w1 hd1
  clear hst1 hd1 HT HC
  by_cases hx : x = 0
  · subst hx
    go_wp2_with fail
    refine (HT1.out (by trivial)).mono ?_
    rintro e w2 ⟨rfl, own2, hst2, hd2⟩
    have HST2 := Lib.hid (HST1.out.trans hst2)
    have HD2 := Lib.hid hd2
    have HRM1 := Lib.hid (HRM.out (by trivial) own2 w2 hd2)
    clear hst2 hd2 HT1 HRM
    by_cases hy : y = 0
    · subst hy
      have HNW := Lib.hid (heap_alloc_new w2 (.cells #[.pointer (some ⟨a, 0, none⟩), .string s, .int .i64 (256 : Nat)] 76))
      have HB := Lib.hid ((Below.refl w2.heap.size w2).alloc (Nat.le_refl _) (.cells #[.pointer (some ⟨a, 0, none⟩), .string s, .int .i64 (256 : Nat)] 76))
      go_wp2
      go_ret2
      exact ⟨own2, HST2.out.trans (Steps.of_below HB.out), .inr (.inr ⟨rfl, rfl, w2.heap.size, HST2.out.size, rfl, HD2.out.stay HB.out, HNW.out, HD2.out.new_none (Nat.le_refl _), HD2.out.below.size⟩)⟩
    · go_wp2_with fail
      refine HRM1.out.mono ?_
      rintro e w3 ⟨⟨z, rfl⟩, own3, hst3⟩
      have HST3 := Lib.hid (HST2.out.trans hst3)
      clear hst3
      go_wp2
      go_ret2
      exact ⟨own3, HST3.out, .inr (.inl ⟨rfl, hy, rfl⟩)⟩
  · go_wp2
    go_ret2
    exact ⟨own1, HST1.out, .inl ⟨hx, rfl, HD1.out⟩⟩
end Go.Proofs.Ytajfcnaifegonaa
