/- The disk: an operation begins. -/
import Derived.Test.YtajfcnaifegonaaMDskA
import Derived.Handy
import Derived.BigQuiet
import Derived.Deep.QuietTactic
namespace Go.Proofs.Ytajfcnaifegonaa
open Go Go.RowKit Go.By
theorem cells_of {w : World} {a : Nat} {c : Array Value} {t : TypeId} {fr : Nat × Nat} (h : w.heap[a]? = some (.cells c t fr)) (i : Nat) : w.cell? ⟨a, i, none⟩ = c[i]? := cell_of_row w a i c t fr h
theorem free_of {w : World} {a : Nat} {c : Array Value} {t : TypeId} (h : w.heap[a]? = some (.cells c t (0, 0))) (i : Nat) : w.frozen? ⟨a, i, none⟩ = false := frozen_of_row w a i c t h
theorem set_heap {w : World} {a : Nat} {c : Array Value} {t : TypeId} (h : w.heap[a]? = some (.cells c t (0, 0))) (i : Nat) (v : Value) :
    (w.setCell ⟨a, i, none⟩ v).heap[a]? = some (.cells (c.setIfInBounds i v) t (0, 0)) ∧ ∀ k, k ≠ a → (w.setCell ⟨a, i, none⟩ v).heap[k]? = w.heap[k]? :=
  ⟨heap_setCell_same w a i c t v h, fun k hk => heap_setCell_other w ⟨a, i, none⟩ k v (fun e => hk e)⟩
theorem DiskIs.turn {w w' : World} {own : Own} {a : Nat} {D D' : DiskA} (h : DiskIs w own a D) (hk : ∀ k, k ≠ a → w'.heap[k]? = w.heap[k]?) (hs : w.heap.size ≤ w'.heap.size)
    (ho : ∀ ms mk mf lv, w.heap[a]? = some (.cells #[.int .i64 D.room, .int .i64 D.used, .int .i64 D.ops, .int .i64 D.left, ms, mk, lv, .int .i64 D.made, mf] 72 (0, 0)) → Parts w own ms mk mf lv D →
      ∃ ms mk mf lv, w'.heap[a]? = some (.cells #[.int .i64 D'.room, .int .i64 D'.used, .int .i64 D'.ops, .int .i64 D'.left, ms, mk, lv, .int .i64 D'.made, mf] 72 (0, 0)) ∧ Parts w own ms mk mf lv D') : DiskIs w' own a D' := by
  obtain ⟨⟨ms, mk, mf, lv, h1, h2⟩, hr, hon, hh⟩ := h
  obtain ⟨ms', mk', mf', lv', g1, g2⟩ := ho ms mk mf lv h1 h2
  refine ⟨⟨ms', mk', mf', lv', g1, g2.stay ⟨fun _ _ h => h, fun k r hkr hne => hk k ?_⟩⟩, hr, hon, fun k r h => Nat.lt_of_lt_of_le (hh k r h) hs⟩
  rintro rfl
  rw [hr] at hkr; cases hkr; exact hne rfl
def DiskA.begin (D : DiskA) (may : Bool) : DiskA × Int :=
  if D.left = 1 then ({ D with ops := D.ops + 1, left := 0 }, 5)
  else ({ D with ops := D.ops + 1, left := D.left - 1 }, if may then 0 else 1)
theorem parts_numbers {w : World} {own : Own} {ms mk mf lv : Value} {D D' : DiskA} (h : Parts w own ms mk mf lv D) (h1 : D'.seen = D.seen) (h2 : D'.kept = D.kept) (h3 : D'.laid = D.laid) (h4 : D'.fm = D.fm) (h5 : D'.cont = D.cont) : Parts w own ms mk mf lv D' where
  seen := by rw [h1]; exact h.seen
  kept := by rw [h2]; exact h.kept
  laid := by rw [h3]; exact h.laid
  laidR := h.laidR
  files := by rw [h4]; exact h.files
  each := by rw [h4, h5]; exact h.each
  bare := by rw [h1, h3, h4]; exact h.bare
  full := h.full
  bareL := by rw [h3]; exact h.bareL
def diskCells (D : DiskA) (ms mk lv mf : Value) : Array Value := #[.int .i64 D.room, .int .i64 D.used, .int .i64 D.ops, .int .i64 D.left, ms, mk, lv, .int .i64 D.made, mf]
theorem DiskIs.set {w : World} {own : Own} {a : Nat} {D D' : DiskA} (h : DiskIs w own a D) (i : Nat) (v : Value)
    (hc : ∀ ms mk mf lv, w.heap[a]? = some (.cells (diskCells D ms mk lv mf) 72 (0, 0)) → Parts w own ms mk mf lv D → ∃ ms' mk' mf' lv', (diskCells D ms mk lv mf).setIfInBounds i v = diskCells D' ms' mk' lv' mf' ∧ Parts w own ms' mk' mf' lv' D') :
    DiskIs (w.setCell ⟨a, i, none⟩ v) own a D' ∧ Steps own own w (w.setCell ⟨a, i, none⟩ v) := by
  obtain ⟨ms0, mk0, mf0, lv0, h1, _⟩ := h.out
  have s1 := set_heap h1 i v
  refine ⟨h.turn s1.2 (by simp) fun ms mk mf lv q1 q2 => ?_, ?_⟩
  · obtain ⟨ms', mk', mf', lv', e, q3⟩ := hc ms mk mf lv q1 q2
    refine ⟨ms', mk', mf', lv', ?_, q3⟩
    have := (set_heap q1 i v).1
    rw [this]
    exact congrArg some (congrArg (fun x => Obj.cells x 72 (0, 0)) e)
  · exact ⟨rfl, rfl, rfl, by simp, fun k _ hn => s1.2 k (by rintro rfl; rw [h.role] at hn; simp at hn), fun _ _ => rfl⟩
theorem DiskIs.setOps {w : World} {own : Own} {a : Nat} {D : DiskA} (h : DiskIs w own a D) (n : Nat) :
    DiskIs (w.setCell ⟨a, 2, none⟩ (.int .i64 n)) own a { D with ops := n } ∧ Steps own own w (w.setCell ⟨a, 2, none⟩ (.int .i64 n)) :=
  h.set 2 _ fun ms mk mf lv _ q => ⟨ms, mk, mf, lv, rfl, parts_numbers q rfl rfl rfl rfl rfl⟩
theorem DiskIs.setLeft {w : World} {own : Own} {a : Nat} {D : DiskA} (h : DiskIs w own a D) (n : Nat) :
    DiskIs (w.setCell ⟨a, 3, none⟩ (.int .i64 n)) own a { D with left := n } ∧ Steps own own w (w.setCell ⟨a, 3, none⟩ (.int .i64 n)) :=
  h.set 3 _ fun ms mk mf lv _ q => ⟨ms, mk, mf, lv, rfl, parts_numbers q rfl rfl rfl rfl rfl⟩
theorem DiskIs.setUsed {w : World} {own : Own} {a : Nat} {D : DiskA} (h : DiskIs w own a D) (n : Int) :
    DiskIs (w.setCell ⟨a, 1, none⟩ (.int .i64 n)) own a { D with used := n } ∧ Steps own own w (w.setCell ⟨a, 1, none⟩ (.int .i64 n)) :=
  h.set 1 _ fun ms mk mf lv _ q => ⟨ms, mk, mf, lv, rfl, parts_numbers q rfl rfl rfl rfl rfl⟩
theorem DiskIs.setMade {w : World} {own : Own} {a : Nat} {D : DiskA} (h : DiskIs w own a D) (n : Nat) :
    DiskIs (w.setCell ⟨a, 7, none⟩ (.int .i64 n)) own a { D with made := n } ∧ Steps own own w (w.setCell ⟨a, 7, none⟩ (.int .i64 n)) :=
  h.set 7 _ fun ms mk mf lv _ q => ⟨ms, mk, mf, lv, rfl, parts_numbers q rfl rfl rfl rfl rfl⟩
set_option maxRecDepth 100000 in
theorem begin_any (own : Own) (a : Nat) (D : DiskA) (may : Bool) (w : World) (h : DiskIs w own a D) (ho : D.ops < 4611686018427387904) (hl : D.left < 4611686018427387904) :
    Calls Try.prog 48 #[.pointer (some ⟨a, 0, none⟩), .bool may] w fun e w' => e = .returned (.int .i64 (D.begin may).2) ∧ DiskIs w' own a (D.begin may).1 ∧ Steps own own w w' := by
  obtain ⟨ms, mk, mf, lv, h1, h2⟩ := h.out
  have g2 : w.cell? ⟨a, 2, none⟩ = some (.int .i64 D.ops) := cells_of h1 2
  have g3 : w.cell? ⟨a, 3, none⟩ = some (.int .i64 D.left) := cells_of h1 3
  have f := free_of h1
  have s1 := h.setOps (D.ops + 1)
  have s2 := s1.1.setLeft (D.left - 1)
  have S1 := Lib.hid s1
  have S2 := Lib.hid s2
  clear s1 s2 h h1 h2
  by_cases h0 : D.left = 0
  · have E : Hid (D.begin may = ({ D with ops := D.ops + 1 }, if may then 0 else 1)) := by
      unfold Hid DiskA.begin; rw [if_neg (by omega)]; simp [h0]
    have l0 : ¬ 0 < (D.left : Int) := by omega
    clear h0
    cases may
    all_goals
      go_enter Try.func48, Try.ntmps48
      go_wp2
      go_ret
      rw [E.out]
      exact ⟨rfl, S1.out.1, S1.out.2⟩
  · by_cases h1 : D.left = 1
    · have E : Hid (D.begin may = ({ D with ops := D.ops + 1, left := 0 }, 5)) := by
        unfold Hid DiskA.begin; rw [if_pos h1]
      have l0 : 0 < (D.left : Int) := by omega
      have l1 : (D.left : Int) - 1 = 0 := by omega
      have l2 : D.left - 1 = 0 := by omega
      rw [l2] at S2
      clear h0 h1 l2
      go_enter Try.func48, Try.ntmps48
      go_wp2
      go_ret
      rw [E.out]
      exact ⟨rfl, S2.out.1, S1.out.2.trans S2.out.2⟩
    · have E : Hid (D.begin may = ({ D with ops := D.ops + 1, left := D.left - 1 }, if may then 0 else 1)) := by
        unfold Hid DiskA.begin; rw [if_neg h1]
      have l0 : 0 < (D.left : Int) := by omega
      have l1 : (D.left : Int) - 1 = ((D.left - 1 : Nat) : Int) := by omega
      have l3 : ¬ ((D.left - 1 : Nat) : Int) = 0 := by omega
      generalize D.left - 1 = L at *
      clear h0 h1
      cases may
      all_goals
        go_enter Try.func48, Try.ntmps48
        go_wp2
        go_ret
        rw [E.out]
        exact ⟨rfl, S2.out.1, S1.out.2.trans S2.out.2⟩
def mayName (s : ByteArray) : Bool := decide (1 ≤ s.size) && decide (s.size ≤ 16)
def mayNumber (n : Int) : Bool := decide (0 ≤ n) && decide (n ≤ 16777216)
set_option maxRecDepth 100000 in
theorem mayName_any (s : ByteArray) (w : World) (hs : s.size ≤ maxLen) : Calls Try.prog 49 #[.string s] w fun e w' => e = .returned (.bool (mayName s)) ∧ w = w' := by
  unfold maxLen at hs
  by_cases h1 : 1 ≤ (s.size : Int)
  · by_cases h2 : (s.size : Int) ≤ 16
    · have E : Hid (mayName s = true) := by unfold Hid mayName; simp; omega
      go_enter Try.func49, Try.ntmps49
      go_wp2
      go_ret
      exact ⟨by rw [E.out]; rfl, rfl⟩
    · have E : Hid (mayName s = false) := by unfold Hid mayName; simp; omega
      have d : decide ((s.size : Int) ≤ 16) = false := by simpa using h2
      go_enter Try.func49, Try.ntmps49
      go_wp2
      go_ret
      exact ⟨by rw [E.out]; rfl, rfl⟩
  · have E : Hid (mayName s = false) := by unfold Hid mayName; simp; omega
    have d : decide (1 ≤ (s.size : Int)) = false := by simpa using h1
    go_enter Try.func49, Try.ntmps49
    go_wp2
    go_ret
    exact ⟨by rw [E.out]; rfl, rfl⟩
set_option maxRecDepth 100000 in
theorem mayNumber_any (n : Int) (w : World) : Calls Try.prog 47 #[.int .i64 n] w fun e w' => e = .returned (.bool (mayNumber n)) ∧ w = w' := by
  by_cases h1 : 0 ≤ n
  · by_cases h2 : n ≤ 16777216
    · have E : Hid (mayNumber n = true) := by unfold Hid mayNumber; simp; omega
      go_enter Try.func47, Try.ntmps47
      go_wp2
      go_ret
      exact ⟨by rw [E.out]; rfl, rfl⟩
    · have E : Hid (mayNumber n = false) := by unfold Hid mayNumber; simp; omega
      have d : decide (n ≤ 16777216) = false := by simpa using h2
      go_enter Try.func47, Try.ntmps47
      go_wp2
      go_ret
      exact ⟨by rw [E.out]; rfl, rfl⟩
  · have E : Hid (mayNumber n = false) := by unfold Hid mayNumber; simp; omega
    have d : decide (0 ≤ n) = false := by simpa using h1
    go_enter Try.func47, Try.ntmps47
    go_wp2
    go_ret
    exact ⟨by rw [E.out]; rfl, rfl⟩
end Go.Proofs.Ytajfcnaifegonaa
/- The disk: a file is found; what is asked without an operation. -/
namespace Go.Proofs.Ytajfcnaifegonaa
open Go Go.RowKit Go.By
theorem namesT : Try.prog.underlying 67 = some (.map 9 3) := by kernel_rfl
theorem filesT : Try.prog.underlying 70 = some (.map 3 107) := by kernel_rfl
theorem strK : Mp.KeyOf Try.prog 9 strV := Mp.KeyOf.string (by kernel_rfl)
theorem KeyNat {P : Program} {kt : TypeId} (h : P.underlying kt = some (.int .i64)) : Mp.KeyOf P kt natV :=
  ⟨.int .i64, h, fun _ => rfl, fun a b => by
    simp only [Instr.sameNow, natV, if_true, Option.some.injEq]
    rw [Bool.eq_iff_iff]; simp [Int.natCast_inj]⟩
theorem natK : Mp.KeyOf Try.prog 3 natV := KeyNat (by kernel_rfl)
theorem zeroInt (w : World) : (zeroValue 3).run Try.prog w = .ok (.int .i64 0) w := by kernel_rfl
theorem zeroFile (w : World) : (zeroValue 107).run Try.prog w = .ok (.pointer none) w := by kernel_rfl
theorem MapV.look {α β : Type} [DecidableEq α] {P : Program} {w : World} {own : Own} {r : Role} {v : Value} {mk : α → Value} {mv : β → Value} {m : List (α × β)} {t kt et : TypeId} (h : MapV w own r v mk mv m)
    (K : Mp.KeyOf P kt mk) (ht : P.underlying t = some (.map kt et)) {z : Value} (hz : (zeroValue et).run P w = .ok z w) (a : α) :
    (Instr.lookup t v (mk a) true).run P w = .ok (.tuple #[((Mp.get m a).map mv).getD z, .bool (Mp.get m a).isSome]) w ∧ (Instr.lookup t v (mk a) false).run P w = .ok (((Mp.get m a).map mv).getD z) w := by
  rcases h with ⟨rfl, rfl⟩ | ⟨b, rfl, _, hm⟩
  · exact Mp.look_nil K ht hz a
  · exact hm.look K ht hz a
def Found (own : Own) (a : Nat) (D : DiskA) (s : ByteArray) (err : Int) (w : World) (e : Ending) (w' : World) : Prop :=
  DiskIs w' own a D ∧ Steps own own w w' ∧
  ((err ≠ 0 ∧ e = .returned (.tuple #[.pointer none, .int .i64 err])) ∨
   (err = 0 ∧ Mp.get D.seen s = none ∧ e = .returned (.tuple #[.pointer none, .int .i64 3])) ∨
   (err = 0 ∧ ∃ n fb, Mp.get D.seen s = some n ∧ Mp.get D.fm n = some fb ∧ e = .returned (.tuple #[.pointer (some ⟨fb, 0, none⟩), .int .i64 0])))
set_option maxRecDepth 100000 in
theorem find_any (own : Own) (a : Nat) (D : DiskA) (s : ByteArray) (may : Bool) (w : World) (h : DiskIs w own a D) (hk : D.Ok) (ho : D.ops < 4611686018427387904) (hl : D.left < 4611686018427387904) (hs : s.size ≤ maxLen) :
    Calls Try.prog 46 #[.pointer (some ⟨a, 0, none⟩), .string s, .bool may] w (Found own a (D.begin (may && mayName s)).1 s (D.begin (may && mayName s)).2 w) := by
  have HK := Lib.hid hk
  have hbeg : ∀ m, Calls Try.prog 48 #[.pointer (some ⟨a, 0, none⟩), .bool m] w fun e w' => e = .returned (.int .i64 (D.begin m).2) ∧ DiskIs w' own a (D.begin m).1 ∧ Steps own own w w' := fun m => begin_any own a D m w h ho hl
  have hok : ∀ m, (D.begin m).1.Ok := fun m => by
    unfold DiskA.begin; split <;> exact ⟨hk.seenIn, hk.keptIn, hk.laidIn, hk.made⟩
  have HB := Lib.hid hbeg
  have HOK := Lib.hid hok
  clear h hk hbeg ho hl hok
  obtain ⟨m, hm⟩ : ∃ m, m = (may && mayName s) := ⟨_, rfl⟩
  rw [← hm]
  have HM := Lib.hid hm; clear hm
  obtain ⟨D1, hD1⟩ : ∃ D1, D1 = (D.begin m).1 := ⟨_, rfl⟩
  obtain ⟨err, herr⟩ : ∃ err, err = (D.begin m).2 := ⟨_, rfl⟩
  have HB1 := Lib.hid (HB.out m)
  have HO1 := Lib.hid (HOK.out m)
  rw [← hD1, ← herr] at HB1 ⊢
  rw [← hD1] at HO1
  clear HB HOK hD1 herr HK
  cases may
  all_goals
    go_enter Try.func46, Try.ntmps46
    go_wp2_with (go_at_call 49; refine (mayName_any s _ hs).mono ?_; rintro e w1 ⟨rfl, rfl⟩)
    first
      | (have e1 : m = false := by rw [HM.out]; rfl
         rw [e1] at HB1)
      | (have e1 : mayName s = m := by rw [HM.out]; rfl
         rw [e1])
    clear HM e1
    refine HB1.out.mono ?_
    rintro e w1 ⟨rfl, hd, hst⟩
    obtain ⟨ms, mk, mf, lv, h1, h2⟩ := hd.out
    have l1 := (h2.seen.look strK namesT (zeroInt w1) s).1
    have g4 : w1.cell? ⟨a, 4, none⟩ = some ms := cells_of h1 4
    have g8 : w1.cell? ⟨a, 8, none⟩ = some mf := cells_of h1 8
    have H2 := Lib.hid h2
    have HD := Lib.hid hd
    have HST := Lib.hid hst
    clear h1 h2 hd hst
    unfold strV at l1
    by_cases he : err = 0
    · subst he
      cases hg : Mp.get D1.seen s with
      | none =>
        rw [hg] at l1
        simp only [Option.map_none, Option.getD_none, Option.isSome_none] at l1
        have HG := Lib.hid hg; clear hg
        go_wp2
        go_ret2
        exact ⟨HD.out, HST.out, .inr (.inl ⟨rfl, HG.out, rfl⟩)⟩
      | some n =>
        rw [hg] at l1
        simp only [Option.map_some, Option.getD_some, Option.isSome_some, natV] at l1
        have hin := HO1.out.seenIn s n hg
        obtain ⟨fb, hfb⟩ := Option.isSome_iff_exists.1 hin
        have l2 := (H2.out.files.look natK filesT (zeroFile w1) n).2
        rw [hfb] at l2
        simp only [Option.map_some, Option.getD_some, natV, ptrV] at l2
        have HG := Lib.hid hg; clear hg
        have HFB := Lib.hid hfb; clear hfb hin
        go_wp2
        go_ret2
        exact ⟨HD.out, HST.out, .inr (.inr ⟨rfl, n, fb, HG.out, HFB.out, rfl⟩)⟩
    · go_wp2
      go_ret2
      exact ⟨HD.out, HST.out, .inl ⟨he, rfl⟩⟩
end Go.Proofs.Ytajfcnaifegonaa
