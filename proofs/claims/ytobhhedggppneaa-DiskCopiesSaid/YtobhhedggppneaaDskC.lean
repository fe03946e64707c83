/- The disk: a file is found; what is asked without an operation. -/
import Derived.Test.YtobhhedggppneaaDskB
namespace Go.Proofs.Ytobhhedggppneaa
open Go Go.RowKit Go.By

theorem namesT : Try.prog.underlying 53 = some (.map 9 3) := by kernel_rfl
theorem filesT : Try.prog.underlying 56 = some (.map 3 62) := by kernel_rfl
theorem strK : Mp.KeyOf Try.prog 9 strV := Mp.KeyOf.string (by kernel_rfl)
theorem KeyNat {P : Program} {kt : TypeId} (h : P.underlying kt = some (.int .i64)) : Mp.KeyOf P kt natV :=
  ⟨.int .i64, h, fun _ => rfl, fun a b => by
    simp only [Instr.sameNow, natV, if_true, Option.some.injEq]
    rw [Bool.eq_iff_iff]; simp [Int.natCast_inj]⟩
theorem natK : Mp.KeyOf Try.prog 3 natV := KeyNat (by kernel_rfl)
theorem zeroInt (w : World) : (zeroValue 3).run Try.prog w = .ok (.int .i64 0) w := by kernel_rfl
theorem zeroFile (w : World) : (zeroValue 62).run Try.prog w = .ok (.pointer none) w := by kernel_rfl

theorem MapV.look {α β : Type} [DecidableEq α] {P : Program} {w : World} {own : Own} {r : Role} {v : Value} {mk : α → Value} {mv : β → Value} {m : List (α × β)} {t kt et : TypeId} (h : MapV w own r v mk mv m)
    (K : Mp.KeyOf P kt mk) (ht : P.underlying t = some (.map kt et)) {z : Value} (hz : (zeroValue et).run P w = .ok z w) (a : α) :
    (Instr.lookup t v (mk a) true).run P w = .ok (.tuple #[((Mp.get m a).map mv).getD z, .bool (Mp.get m a).isSome]) w ∧ (Instr.lookup t v (mk a) false).run P w = .ok (((Mp.get m a).map mv).getD z) w := by
  rcases h with ⟨rfl, rfl⟩ | ⟨b, rfl, _, hm⟩
  · exact Mp.look_nil K ht hz a
  · exact hm.look K ht hz a

/-- What find tells. -/
def Found (own : Own) (a : Nat) (D : DiskA) (s : ByteArray) (err : Int) (w : World) (e : Ending) (w' : World) : Prop :=
  DiskIs w' own a D ∧ Steps own own w w' ∧
  ((err ≠ 0 ∧ e = .returned (.tuple #[.pointer none, .int .i64 err])) ∨
   (err = 0 ∧ Mp.get D.seen s = none ∧ e = .returned (.tuple #[.pointer none, .int .i64 3])) ∨
   (err = 0 ∧ ∃ n fb, Mp.get D.seen s = some n ∧ Mp.get D.fm n = some fb ∧ e = .returned (.tuple #[.pointer (some ⟨fb, 0, none⟩), .int .i64 0])))

set_option maxRecDepth 100000 in
theorem find_any (own : Own) (a : Nat) (D : DiskA) (s : ByteArray) (may : Bool) (w : World) (h : DiskIs w own a D) (hk : D.Ok) (ho : D.ops < 4611686018427387904) (hl : D.left < 4611686018427387904) (hs : s.size ≤ maxLen) :
    Calls Try.prog 27 #[.pointer (some ⟨a, 0, none⟩), .string s, .bool may] w (Found own a (D.begin (may && mayName s)).1 s (D.begin (may && mayName s)).2 w) := by
  have HK := Lib.hid hk
  have hbeg : ∀ m, Calls Try.prog 22 #[.pointer (some ⟨a, 0, none⟩), .bool m] w fun e w' => e = .returned (.int .i64 (D.begin m).2) ∧ DiskIs w' own a (D.begin m).1 ∧ Steps own own w w' := fun m => begin_any own a D m w h ho hl
  have hok : ∀ m, (D.begin m).1.Ok := fun m => by
    unfold DiskA.begin; split <;> exact ⟨hk.seenIn, hk.keptIn, hk.laidIn, hk.made⟩
  have HB := Lib.hid hbeg
  have HOK := Lib.hid hok
  clear h hk hbeg ho hl hok
  obtain ⟨m, hm⟩ : ∃ m, m = (may && mayName s) := ⟨_, rfl⟩
  rw [← hm]
  have HM := Lib.hid hm; clear hm
  obtain ⟨D1, hD1⟩ : ∃ D1, D1 = (D.begin m).1 := ⟨_, rfl⟩
  obtain ⟨err, herr⟩ : ∃ err, err = (D.begin m).2 := ⟨_, rfl⟩
  have HB1 := Lib.hid (HB.out m)
  have HO1 := Lib.hid (HOK.out m)
  rw [← hD1, ← herr] at HB1 ⊢
  rw [← hD1] at HO1
  clear HB HOK hD1 herr HK
  cases may
  all_goals
    go_enter Try.func27, Try.ntmps27
    go_wp2_with (go_at_call 23; refine (mayName_any s _ hs).mono ?_; rintro e w1 ⟨rfl, rfl⟩)
    first
      | (have e1 : m = false := by rw [HM.out]; rfl
         rw [e1] at HB1)
      | (have e1 : mayName s = m := by rw [HM.out]; rfl
         rw [e1])
    clear HM e1
    refine HB1.out.mono ?_
    rintro e w1 ⟨rfl, hd, hst⟩
    obtain ⟨ms, mk, mf, lv, h1, h2⟩ := hd.out
    have l1 := (h2.seen.look strK namesT (zeroInt w1) s).1
    have g4 : w1.cell? ⟨a, 4, none⟩ = some ms := cells_of h1 4
    have g8 : w1.cell? ⟨a, 8, none⟩ = some mf := cells_of h1 8
    have H2 := Lib.hid h2
    have HD := Lib.hid hd
    have HST := Lib.hid hst
    clear h1 h2 hd hst
    unfold strV at l1
    by_cases he : err = 0
    · subst he
      cases hg : Mp.get D1.seen s with
      | none =>
        rw [hg] at l1
        simp only [Option.map_none, Option.getD_none, Option.isSome_none] at l1
        have HG := Lib.hid hg; clear hg
        go_wp2
        go_ret2
        exact ⟨HD.out, HST.out, .inr (.inl ⟨rfl, HG.out, rfl⟩)⟩
      | some n =>
        rw [hg] at l1
        simp only [Option.map_some, Option.getD_some, Option.isSome_some, natV] at l1
        have hin := HO1.out.seenIn s n hg
        obtain ⟨fb, hfb⟩ := Option.isSome_iff_exists.1 hin
        have l2 := (H2.out.files.look natK filesT (zeroFile w1) n).2
        rw [hfb] at l2
        simp only [Option.map_some, Option.getD_some, natV, ptrV] at l2
        have HG := Lib.hid hg; clear hg
        have HFB := Lib.hid hfb; clear hfb hin
        go_wp2
        go_ret2
        exact ⟨HD.out, HST.out, .inr (.inr ⟨rfl, n, fb, HG.out, HFB.out, rfl⟩)⟩
    · go_wp2
      go_ret2
      exact ⟨HD.out, HST.out, .inl ⟨he, rfl⟩⟩
end Go.Proofs.Ytobhhedggppneaa
