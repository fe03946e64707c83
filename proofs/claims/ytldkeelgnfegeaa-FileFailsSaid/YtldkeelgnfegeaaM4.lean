/- Own texts, merged: DskM, DskN, DskO, DskP, DskQ, DskR, DskS, DskBF, DskW, DskBG, SyA, BodyR, FlA, FlB. -/
import Derived.Test.YtldkeelgnfegeaaM3
import Derived.Deep.RegionHeld3
import Derived.Deep.AppendLies
import Derived.Handy
import Derived.BigQuiet
import Derived.Deep.Slices
import Derived.OpenShut
import Derived.Deep.QuietTactic

/- The disk: file.alter. -/
namespace Go.Proofs.Ytldkeelgnfegeaa
open Go Go.RowKit Go.By

theorem byteOpInfo : (Try.prog.info? 105).map (fun i => (i.zero, i.size, i.bytes)) = some (some .nilFunc, 1, 8) := by kernel_rfl
theorem byteOps : Try.prog.underlying 76 = some (.slice 105) := by kernel_rfl

def allBits : Nat → Bool := fun _ => true

theorem all_lasts : Lasts 52 #[] (fun _ => False) none (fun _ _ => True) allBits := always_lasts

theorem altered {own : Own} {n fb : Nat} {F : FileA} {o : ByteOp} {w w1 w2 w3 w4 : World} {sv kv lv sv1 lv1 c : Value} {cs : List Value} {l1 : List Nat} {ob : Obj} (h1 : w.heap[fb]? = some (.cells #[sv, kv, lv] 78 (0, 0)))
    (h2 : RowV w own (.fseen n) sv F.seen) (h3 : RowV w own (.fkept n) kv F.kept) (h5 : ∀ k, lv.ownBlock = some k → own k = some (.flaid n)) (h6 : OpsV w own cs F.laid) (hr : own fb = some (.file n)) (here : ∀ k r, own k = some r → k < w.heap.size) (ho : OpV w own c o)
    (hrt : RowTo (fun _ => False) none w w1 sv sv1 l1) (hs : ∀ c ∈ l1, c < 256) (e2 : w2 = w1.setCell ⟨fb, 0, none⟩ sv1) (e3 : w3 = w2.alloc ob)
    (hown : w4.ownsRow 0 105 1 lv1 (F.laid.length + 1) (cs ++ [c])) (hgrow : w3.grownBy w4 lv.ownBlock) (hat : lv1.ownBlock = lv.ownBlock ∨ lv1.ownBlock = some w3.heap.size) :
    w4.heap[fb]? = some (.cells #[sv1, kv, lv] 78 (0, 0)) ∧
    ∃ own', FileIs (w4.setCell ⟨fb, 2, none⟩ lv1) own' n fb { F with seen := l1, laid := F.laid ++ [o] } ∧ FileStep n none own own' w (w4.setCell ⟨fb, 2, none⟩ lv1) := by
  have hfb := here fb _ hr
  have hsf : sv.ownBlock ≠ some fb := fun e => by have := h2.role fb e; rw [hr] at this; cases this
  have hlf : lv.ownBlock ≠ some fb := fun e => by have := h5 fb e; rw [hr] at this; cases this
  have hs1 : ∀ g, sv1.ownBlock = some g → g ≠ fb ∧ lv.ownBlock ≠ some g := fun g hg => by
    rcases hrt.moved with hm | ⟨q, hm, hq⟩
    · rw [hm] at hg
      have hg' := h2.role g hg
      exact ⟨fun e => (by rw [e, hr] at hg'; cases hg'), fun e => (by have := h5 g e; rw [hg'] at this; cases this)⟩
    · rw [hm] at hg; cases hg
      exact ⟨by omega, fun e => (by have := here _ _ (h5 _ e); omega)⟩
  have z1 := hrt.turned.size
  have z2 : w2.heap.size = w1.heap.size := by rw [e2]; simp
  have z3 : w3.heap.size = w1.heap.size + 1 := by rw [e3]; simp [z2]
  have z4 := hgrow.size
  have z5 : (w4.setCell ⟨fb, 2, none⟩ lv1).heap.size = w4.heap.size := by simp
  have f1 : w1.heap[fb]? = some (.cells #[sv, kv, lv] 78 (0, 0)) := (hrt.keeps hfb hsf (by simp)).trans h1
  obtain ⟨g1, g2⟩ := set_heap f1 0 sv1
  rw [← e2] at g1 g2
  have f3 : w3.heap[fb]? = some (.cells #[sv1, kv, lv] 78 (0, 0)) := by rw [e3, Below.heap_alloc w2 _ _ (by omega)]; simpa using g1
  have f4 : w4.heap[fb]? = some (.cells #[sv1, kv, lv] 78 (0, 0)) := (hgrow.block fb (by omega) (fun e => hlf e.symm)).trans f3
  obtain ⟨g3, g4⟩ := set_heap f4 2 lv1
  have hT : Turned (fun j => j = fb ∨ sv.ownBlock = some j ∨ lv.ownBlock = some j) w (w4.setCell ⟨fb, 2, none⟩ lv1) := by
    refine Turned.setCell (((Turned.alloc (Turned.setCell (hrt.turned.weaken (S' := fun j => j = fb ∨ sv.ownBlock = some j ∨ lv.ownBlock = some j) ?_) (.inl rfl) 0 sv1) ob).trans (w2 := w4) (S' := fun k => lv.ownBlock = some k) ?_ ?_)) (.inl rfl) 2 lv1
    · rintro k (h | h)
      · exact .inr (.inl h)
      · cases h
    · rw [← e2, ← e3]; exact Turned.of_grown hgrow
    · exact fun j hj => .inl (.inr (.inr hj))
  have hs1w : ∀ g, sv1.ownBlock = some g → (w4.setCell ⟨fb, 2, none⟩ lv1).heap[g]? = w1.heap[g]? ∧ g < w1.heap.size := fun g hg => by
    have hlt : g < w1.heap.size := by
      rcases hrt.owns.2 with ⟨h, _⟩ | ⟨g', cap, cur, h, _, hg', _⟩
      · rw [h] at hg; cases hg
      · rw [h] at hg; cases hg; exact (Array.getElem?_eq_some_iff.1 hg').1
    refine ⟨?_, hlt⟩
    rw [g4 g (hs1 g hg).1, hgrow.block g (by omega) (fun e => (hs1 g hg).2 e.symm), e3, Below.heap_alloc w2 _ _ (by omega), g2 g (hs1 g hg).1]
  obtain ⟨o1, a1, a2, a3, a4⟩ := own_went here h2.role hrt.moved (fun k hk => (hs1w k hk).2)
  have here1 : ∀ k r, o1 k = some r → k < w3.heap.size := fun k r hk => by
    rcases a4 k r hk with h | ⟨_, h, _⟩
    · have := here k r h; omega
    · omega
  have hlv1 : ∀ k, lv1.ownBlock = some k → k ≠ fb ∧ k < w4.heap.size := fun k hk => by
    refine ⟨?_, ?_⟩
    · rcases hat with hm | hm
      · rw [hm] at hk; rintro rfl; exact hlf hk
      · rw [hm] at hk; cases hk; omega
    · rcases hown.2 with ⟨h, _⟩ | ⟨g', cap, cur, h, _, hg', _⟩
      · rw [h] at hk; cases hk
      · rw [h] at hk; cases hk; exact (Array.getElem?_eq_some_iff.1 hg').1
  obtain ⟨o2, b1, b2, b3, b4⟩ := own_went here1 (v := lv) (v' := lv1) (r := .flaid n) (w' := w4) (fun k hk => a2 k _ (h5 k hk)) (by
    rcases hat with h | h
    · exact .inl h
    · exact .inr ⟨_, h, Nat.le_refl _⟩) (fun k hk => (hlv1 k hk).2)
  have keep : ∀ k r, own k = some r → r ≠ .file n → r ≠ .fseen n → r ≠ .flaid n → (w4.setCell ⟨fb, 2, none⟩ lv1).heap[k]? = w.heap[k]? := fun k r hk q1 q2 q3 => hT.block k (here k r hk) (by
    rintro (rfl | h | h)
    · rw [hr] at hk; cases hk; exact q1 rfl
    · have := h2.role k h; rw [hk] at this; cases this; exact q2 rfl
    · have := h5 k h; rw [hk] at this; cases this; exact q3 rfl)
  have stay : Stay own o2 (· = .ink) w (w4.setCell ⟨fb, 2, none⟩ lv1) := ⟨fun k r h => b2 k r (a2 k r h), fun k r hk hr' => keep k r hk (by rw [hr']; simp) (by rw [hr']; simp) (by rw [hr']; simp)⟩
  refine ⟨f4, o2, ⟨⟨sv1, kv, lv1, cs ++ [c], by simpa using g3, ⟨ownsRow_of_heap hrt.owns fun k hk => (hs1w k hk).1, fun k hk => b2 k _ (a3 k hk), hs⟩,
    ⟨ownsRow_of_heap h3.owns fun k hk => keep k _ (h3.role k hk) (by simp) (by simp) (by simp), fun k hk => b2 k _ (a2 k _ (h3.role k hk)), h3.small⟩, ?_, b3, OpsV.snoc (ho.stay stay rfl) (h6.stay stay rfl)⟩, b2 fb _ (a2 fb _ hr), fun _ _ h0 => absurd h0 (by simp)⟩, ⟨hT.weaken ?_, ?_, fun k r h => b2 k r (a2 k r h), ?_⟩⟩
  · simp only [List.length_append, List.length_cons, List.length_nil, Nat.zero_add]
    exact ownsRow_of_heap hown fun k hk => g4 k (hlv1 k hk).1
  · rintro k (rfl | e | e)
    · exact .inl ⟨_, hr, .inl rfl⟩
    · exact .inl ⟨_, h2.role k e, .inr (.inl rfl)⟩
    · exact .inl ⟨_, h5 k e, .inr (.inr (.inr rfl))⟩
  · intro k hk
    rw [b1 k (by omega), a1 k hk]
  · intro k r hk
    rcases b4 k r hk with h' | ⟨q1, q2, rfl⟩
    · rcases a4 k r h' with h' | ⟨q1, q2, rfl⟩
      · exact .inl h'
      · exact .inr ⟨q1, by omega, .inl (.inr (.inl rfl))⟩
    · exact .inr ⟨by omega, by omega, .inl (.inr (.inr (.inr rfl)))⟩

set_option maxRecDepth 100000 in
theorem alterFile_any (own : Own) (n fb : Nat) (F : FileA) (c : Value) (o : ByteOp) (w : World) (h : FileIs w own n fb F) (ho : OpV w own c o)
    (here : ∀ k r, own k = some r → k < w.heap.size) (hl : F.laid.length < 1000000) :
    Calls Try.prog 37 #[.pointer (some ⟨fb, 0, none⟩), c] w fun e w' => e = .returned (.int .i64 (((redoOp allBits o 0 F.seen).1.length : Int) - F.seen.length)) ∧
      ∃ own', FileIs w' own' n fb { F with seen := (redoOp allBits o 0 F.seen).1, laid := F.laid ++ [o] } ∧ FileStep n none own own' w w' := by
  obtain ⟨⟨sv, kv, lv, cs, h1, h2, h3, h4, h5, h6⟩, hr⟩ := h
  have hfb := here fb _ hr
  have hsf : sv.ownBlock ≠ some fb := fun e => by have := h2.role fb e; rw [hr] at this; cases this
  obtain ⟨gf, fs, rfl, hent, hcall⟩ := redo_any all_lasts own o c sv F.seen 0 w trivial h2.owns ho (fun q hq => ⟨fun e => (by have := h2.role q e; rw [hq] at this; cases this), fun h => h⟩) (fun _ _ h => h) (by unfold drawLim; omega)
  obtain ⟨ps, cps, hsv⟩ : ∃ p c, sv = .slice p F.seen.length c := by
    rcases h2.owns.2 with ⟨h, h2⟩ | ⟨g, cap, _, h, _⟩
    · exact ⟨none, 0, by rw [h, h2]⟩
    · exact ⟨_, cap, h⟩
  have c0 : w.cell? ⟨fb, 0, none⟩ = some sv := cells_of h1 0
  have hrest : ∀ w1 sv1 l1, RowTo (fun _ => False) none w w1 sv sv1 l1 → w1.heap[fb]? = some (.cells #[sv, kv, lv] 78 (0, 0)) := fun w1 sv1 l1 h => (h.keeps hfb hsf (by simp)).trans h1
  have HREST := Lib.hid hrest; have HO := Lib.hid ho; have HCALL := Lib.hid hcall; have HFB := Lib.hid hfb; have HSF := Lib.hid hsf; have HR := Lib.hid hr; have HERE := Lib.hid here
  have H1 := Lib.hid h1; have H2 := Lib.hid h2; have H3 := Lib.hid h3; have H4 := Lib.hid h4; have H5 := Lib.hid h5; have H6 := Lib.hid h6
  clear hrest ho hcall hfb hsf hr here h1 h2 h3 h4 h5 h6
  subst hsv
  go_enter Try.func37, Try.ntmps37
  go_wp2_with fail
  refine HCALL.out.mono ?_
  rintro e w1 ⟨sv1, rfl, _, hrt⟩
  have f1 := HREST.out w1 sv1 _ hrt
  have g1 : w1.cell? ⟨fb, 0, none⟩ = some (.slice ps F.seen.length cps) := cells_of f1 0
  have g2 : w1.frozen? ⟨fb, 0, none⟩ = false := free_of f1 0
  obtain ⟨g5, g6⟩ := set_heap f1 0 sv1
  have g7 : (w1.setCell ⟨fb, 0, none⟩ sv1).cell? ⟨fb, 2, none⟩ = some lv := (cells_of g5 2).trans (by simp)
  have HRT := Lib.hid hrt; have G5 := Lib.hid g5
  have hsm := redoOp_small (bit := allBits) HO.out (i := 0) H2.out.small
  have HSM := Lib.hid hsm
  have ho4 : (w1.setCell ⟨fb, 0, none⟩ sv1).ownsRow 0 105 1 lv F.laid.length cs := ownsRow_of_heap H4.out fun k hk => (g6 k (by
    rintro rfl; have := H5.out k hk; rw [HR.out] at this; cases this)).trans (hrt.keeps (HERE.out k _ (H5.out k hk)) (fun e => by have := H2.out.role k e; rw [H5.out k hk] at this; cases this) (by simp))
  have HO4 := Lib.hid ho4
  obtain ⟨p1, cp1, hsv1⟩ : ∃ p c, sv1 = .slice p (redoOp allBits o 0 F.seen).1.length c := by
    rcases hrt.owns.2 with ⟨h, h2⟩ | ⟨g, cap, _, h, _⟩
    · exact ⟨none, 0, by rw [h, h2]⟩
    · exact ⟨_, cap, h⟩
  clear hrt g5 g6 hsm ho4
  subst hsv1
  obtain ⟨i0, hi, hz0, hz1, hz2⟩ := info_parts byteOpInfo
  have HI := Lib.hid hi; have Z0 := Lib.hid hz0; have Z1 := Lib.hid hz1; have Z2 := Lib.hid hz2
  clear hi hz0 hz1 hz2
  obtain ⟨sv1, hsv1⟩ : ∃ v, v = (Value.slice p1 (redoOp allBits o 0 F.seen).1.length cp1) := ⟨_, rfl⟩
  have g8 : (w1.setCell ⟨fb, 0, none⟩ (.slice p1 (redoOp allBits o 0 F.seen).1.length cp1)).heap.size = w1.heap.size := by simp
  have G8 := Lib.hid g8; clear g8
  go_wp2_with (at_builtin; refine wpList_append_own_at _ rfl (.tmp 24) (.tmp 26) 76 rfl 0 105 i0 .nilFunc 1 8 byteOps HI.out Z0.out Z1.out Z2.out rfl (by decide) lv F.laid.length cs rfl (HO4.out.alloc _) ⟨w1.heap.size, 0, none⟩ 1 1 [.func (.func gf) fs #[]] rfl rfl ?c1 ?c2 ?c3 ?c4 ?c5 ?c6)
  case c1 =>
    intro j u hu
    match j with
    | 0 =>
      simp at hu; subst hu
      have := World.cell?_alloc_new (w1.setCell ⟨fb, 0, none⟩ (.slice p1 (redoOp allBits o 0 F.seen).1.length cp1)) #[.func (.func gf) fs #[]] 105 0
      rw [G8.out] at this
      exact this
    | j + 1 => simp at hu
  case c2 => intro u hu; simp at hu; subst hu; rfl
  case c3 => unfold maxLen; omega
  case c4 => omega
  case c5 => omega
  intro v2 w4 hown hgrow _ hat
  have fin := altered H1.out H2.out H3.out H5.out H6.out HR.out HERE.out HO.out HRT.out HSM.out rfl rfl hown hgrow (by simpa using hat)
  obtain ⟨f4, hfin⟩ := fin
  have FIN := Lib.hid hfin
  obtain ⟨p2, c2, rfl⟩ : ∃ p c, v2 = .slice p (F.laid.length + 1) c := by
    rcases hown.2 with ⟨_, h⟩ | ⟨g, c, _, h, _⟩
    · omega
    · exact ⟨_, c, h⟩
  have g9 : w4.cell? ⟨fb, 2, none⟩ = some lv := cells_of f4 2
  have g10 : w4.frozen? ⟨fb, 2, none⟩ = false := free_of f4 2
  obtain ⟨q1, q2⟩ := set_heap f4 2 (.slice p2 (F.laid.length + 1) c2)
  have g11 : (w4.setCell ⟨fb, 2, none⟩ (.slice p2 (F.laid.length + 1) c2)).cell? ⟨fb, 0, none⟩ = some (.slice p1 (redoOp allBits o 0 F.seen).1.length cp1) := (cells_of q1 0).trans (by simp)
  have hlen : (redoOp allBits o 0 F.seen).1.length ≤ 9223372036854775807 := by
    rcases HRT.out.owns.2 with ⟨_, h2⟩ | ⟨g, cap, _, h, _, _, h2, h3, _⟩
    · omega
    · unfold maxLen at h3; omega
  have hlen2 : F.seen.length ≤ 9223372036854775807 := by
    rcases H2.out.owns.2 with ⟨_, h2⟩ | ⟨g, cap, _, h, _, _, h2, h3, _⟩
    · omega
    · unfold maxLen at h3; omega
  clear hown hgrow hat hfin q1 q2 f4
  go_wp2
  go_ret
  exact ⟨rfl, FIN.out⟩
end Go.Proofs.Ytldkeelgnfegeaa

/- The disk: Sync. -/
namespace Go.Proofs.Ytldkeelgnfegeaa
open Go Go.RowKit Go.By

def DiskA.withFile (D : DiskA) (n : Nat) (F : FileA) : DiskA := { D with cont := fun k => if k = n then F else D.cont k }
theorem DiskA.withFile_ok {D : DiskA} (h : D.Ok) (n : Nat) (F : FileA) : (D.withFile n F).Ok := ⟨h.seenIn, h.keptIn, h.laidIn, h.made⟩
theorem DiskA.used_ok {D : DiskA} (h : D.Ok) (u : Int) : ({ D with used := u } : DiskA).Ok := ⟨h.seenIn, h.keptIn, h.laidIn, h.made⟩
theorem DiskA.begin_ok {D : DiskA} (h : D.Ok) (m : Bool) : (D.begin m).1.Ok := by
  unfold DiskA.begin; split <;> exact ⟨h.seenIn, h.keptIn, h.laidIn, h.made⟩
theorem DiskA.begin_same (D : DiskA) (m : Bool) : (D.begin m).1.seen = D.seen ∧ (D.begin m).1.kept = D.kept ∧ (D.begin m).1.laid = D.laid ∧ (D.begin m).1.fm = D.fm ∧ (D.begin m).1.cont = D.cont ∧ (D.begin m).1.room = D.room ∧ (D.begin m).1.used = D.used ∧ (D.begin m).1.made = D.made ∧ (D.begin m).1.ops = D.ops + 1 ∧ (D.begin m).1.left ≤ D.left := by
  unfold DiskA.begin; split
  · exact ⟨rfl, rfl, rfl, rfl, rfl, rfl, rfl, rfl, rfl, Nat.zero_le _⟩
  · exact ⟨rfl, rfl, rfl, rfl, rfl, rfl, rfl, rfl, rfl, Nat.sub_le _ _⟩

theorem FileStep.keeps {n : Nat} {lb : Option Nat} {own own' : Own} {w w' : World} (hs : FileStep n lb own own' w w') (here : ∀ k r, own k = some r → k < w.heap.size) (hlb : ∀ k r, own k = some r → lb ≠ some k) :
    Stay own own' (fun r => ¬ ofFile n r) w w' := ⟨hs.role, fun k r hk hr => hs.turned.block k (here k r hk) (by
      rintro (⟨r', h1, h2⟩ | h)
      · rw [hk] at h1; cases h1; exact hr h2
      · exact hlb k r hk h)⟩
theorem FileStep.steps {n : Nat} {own own' : Own} {w w' : World} (hs : FileStep n none own own' w w') : Steps own own' w w' :=
  ⟨hs.turned.os, hs.turned.tape, hs.turned.output, hs.turned.size, fun k hk hn => hs.turned.block k hk (by
    rintro (⟨r, h1, h2⟩ | h)
    · rcases hn with hn | hn
      · rw [hn] at h1; cases h1
      · rw [hn] at h1; cases h1; rcases h2 with h | h | h | h <;> cases h
    · cases h), hs.same⟩

theorem DiskIs.filed {w w' : World} {own own' : Own} {a n fb : Nat} {D : DiskA} {F : FileA} {lb : Option Nat} (h : DiskIs w own a D) (hn : Mp.get D.fm n = some fb) (hf : FileIs w' own' n fb F) (hs : FileStep n lb own own' w w') (hlb : ∀ k r, own k = some r → lb ≠ some k) :
    DiskIs w' own' a (D.withFile n F) := by
  have hst := hs.keeps h.here hlb
  obtain ⟨ms, mk, mf, lv, h1, h2⟩ := h.out
  have nf : ∀ r : Role, (∀ m, r ≠ .file m) → (∀ m, r ≠ .fseen m) → (∀ m, r ≠ .fkept m) → (∀ m, r ≠ .flaid m) → ¬ ofFile n r := fun r q1 q2 q3 q4 h => by
    rcases h with h | h | h | h
    · exact q1 n h
    · exact q2 n h
    · exact q3 n h
    · exact q4 n h
  refine ⟨⟨ms, mk, mf, lv, (hst.block a _ h.role (nf _ (by simp) (by simp) (by simp) (by simp))).trans h1, ?_⟩, hs.role a _ h.role, fun k hk => ?_, fun k r hk => ?_⟩
  · refine ⟨h2.seen.stay hst (nf _ (by simp) (by simp) (by simp) (by simp)), h2.kept.stay hst (nf _ (by simp) (by simp) (by simp) (by simp)), ownsRow_of_heap h2.laid fun k hk => hst.block k _ (h2.laidR k hk) (nf _ (by simp) (by simp) (by simp) (by simp)),
      fun k hk => hs.role k _ (h2.laidR k hk), h2.files.stay hst (nf _ (by simp) (by simp) (by simp) (by simp)), fun m fb' hm => ?_, h2.bare, h2.full, h2.bareL⟩
    by_cases he : m = n
    · subst he
      have e : fb = fb' := by
        have hm' : Mp.get D.fm m = some fb' := hm
        rw [hn] at hm'; exact Option.some.inj hm'
      subst e
      show FileIs w' own' m fb (if m = m then F else D.cont m)
      rw [if_pos rfl]; exact hf
    · show FileIs w' own' m fb' (if m = n then F else D.cont m)
      rw [if_neg he]
      have hne : ∀ r, (r = Role.file m ∨ r = .fseen m ∨ r = .fkept m ∨ r = .flaid m ∨ r = .ink) → ¬ ofFile n r := by
        rintro r (rfl | rfl | rfl | rfl | rfl) <;> unfold ofFile <;> simp [he]
      exact (h2.each m fb' hm).stay hst (hne _ (.inl rfl)) (hne _ (.inr (.inl rfl))) (hne _ (.inr (.inr (.inl rfl)))) (hne _ (.inr (.inr (.inr (.inl rfl))))) (hne _ (.inr (.inr (.inr (.inr rfl)))))
  · rcases hs.new k _ hk with h' | ⟨_, _, h' | h'⟩
    · exact h.only k h'
    · exact absurd h' (nf _ (by simp) (by simp) (by simp) (by simp))
    · cases h'
  · rcases hs.new k _ hk with h' | ⟨_, h', _⟩
    · exact Nat.lt_of_lt_of_le (h.here k r h') hs.turned.size
    · exact h'

/-- What an operation on a file tells. -/
def Filed (own : Own) (a : Nat) (D1 : DiskA) (err : Int) (s : ByteArray) (post : Nat → Int → DiskA → Prop) (w : World) (e : Ending) (w' : World) : Prop :=
  ∃ own', Steps own own' w w' ∧ ((err ≠ 0 ∧ e = .returned (.int .i64 err) ∧ DiskIs w' own' a D1) ∨ (err = 0 ∧ Mp.get D1.seen s = none ∧ e = .returned (.int .i64 3) ∧ DiskIs w' own' a D1) ∨
    (err = 0 ∧ ∃ n x D2, Mp.get D1.seen s = some n ∧ post n x D2 ∧ e = .returned (.int .i64 x) ∧ DiskIs w' own' a D2))

def FileA.settle (F : FileA) : FileA := { F with kept := (redoOps allBits F.laid 0 F.kept).1, laid := [] }

set_option maxRecDepth 100000 in
theorem sync_any (own : Own) (a : Nat) (D : DiskA) (s : ByteArray) (w : World) (h : DiskIs w own a D) (hk : D.Ok) (ho : D.ops < 4611686018427387904) (hl : D.left < 4611686018427387904) (hs : s.size ≤ maxLen) (hll : ∀ n, (D.cont n).laid.length ≤ 1000000) :
    Calls Try.prog 40 #[.pointer (some ⟨a, 0, none⟩), .string s] w (Filed own a (D.begin (mayName s)).1 (D.begin (mayName s)).2 s (fun n x D2 => x = 0 ∧ D2 = (D.begin (mayName s)).1.withFile n (D.cont n).settle) w) := by
  have hfind := find_any own a D s true w h hk ho hl hs
  rw [Bool.true_and] at hfind
  obtain ⟨D1, hD1⟩ : ∃ D1, D1 = (D.begin (mayName s)).1 := ⟨_, rfl⟩
  obtain ⟨err, herr⟩ : ∃ err, err = (D.begin (mayName s)).2 := ⟨_, rfl⟩
  have hc : D.cont = D1.cont := by rw [hD1]; exact (D.begin_same _).2.2.2.2.1.symm
  rw [← hD1, ← herr] at hfind ⊢
  rw [hc] at hll ⊢
  have HF := Lib.hid hfind; have HLL := Lib.hid hll
  clear hfind h hk ho hl hD1 herr hc hll
  go_enter Try.func40, Try.ntmps40
  go_wp2_with fail
  refine HF.out.mono ?_
  rintro e w1 ⟨hd, hst, ⟨he, rfl⟩ | ⟨rfl, hg, rfl⟩ | ⟨rfl, n, fb, hg, hfb, rfl⟩⟩
  · have HD := Lib.hid hd; have HST := Lib.hid hst; clear hd hst
    go_wp2
    go_ret
    exact ⟨own, HST.out, .inl ⟨he, rfl, HD.out⟩⟩
  · have HD := Lib.hid hd; have HST := Lib.hid hst; have HG := Lib.hid hg; clear hd hst hg
    go_wp2
    go_ret
    exact ⟨own, HST.out, .inr (.inl ⟨rfl, HG.out, rfl, HD.out⟩)⟩
  · obtain ⟨ms, mk, mf, lv, h1, h2⟩ := hd.out
    have hfile := h2.each n fb hfb
    have hset := settleFile_any all_lasts own n fb 0 (D1.cont n) w1 trivial hfile hd.here (fun _ _ _ h => h) (HLL.out n) (by have := HLL.out n; unfold drawLim; omega)
    have HD := Lib.hid hd; have HST := Lib.hid hst; have HG := Lib.hid hg; have HSET := Lib.hid hset; have HFB := Lib.hid hfb
    clear hd hst hg hset h1 h2 hfile hfb
    go_wp2_with fail
    refine HSET.out.mono ?_
    rintro e w2 ⟨rfl, _, own2, hf2, hs2⟩
    have fin := HD.out.filed HFB.out hf2 hs2 (by simp)
    have FIN := Lib.hid fin; have ST2 := Lib.hid (HST.out.trans hs2.steps)
    clear fin hf2 hs2
    go_wp2
    go_ret
    exact ⟨own2, ST2.out, .inr (.inr ⟨rfl, n, 0, _, HG.out, ⟨rfl, rfl⟩, rfl, FIN.out⟩)⟩
end Go.Proofs.Ytldkeelgnfegeaa

/- The disk: hasRoom, Truncate. -/
namespace Go.Proofs.Ytldkeelgnfegeaa
open Go Go.RowKit Go.By

def DiskA.hasRoom (D : DiskA) (n : Nat) (size : Int) : Bool := decide (size - ((D.cont n).seen.length : Int) ≤ 0) || decide (size - ((D.cont n).seen.length : Int) ≤ D.room - D.used)

set_option maxRecDepth 100000 in
theorem hasRoom_any (own : Own) (a n fb : Nat) (D : DiskA) (size : Int) (w : World) (h : DiskIs w own a D) (hn : Mp.get D.fm n = some fb) (hr : 0 ≤ D.room ∧ D.room ≤ 9223372036854775807) (hu : 0 ≤ D.used ∧ D.used ≤ 4611686018427387904) (hsz : 0 ≤ size ∧ size ≤ 4611686018427387904) :
    Calls Try.prog 36 #[.pointer (some ⟨a, 0, none⟩), .pointer (some ⟨fb, 0, none⟩), .int .i64 size] w fun e w' => e = .returned (.bool (D.hasRoom n size)) ∧ w'.heap = w.heap ∧ DiskIs w' own a D ∧ Steps own own w w' := by
  have hfin : ∀ q, (w.drewN q).heap = w.heap ∧ DiskIs (w.drewN q) own a D ∧ Steps own own w (w.drewN q) := fun q => by
    have hh : (w.drewN q).heap = w.heap := rfl
    have hst : Steps own own w (w.drewN q) := ⟨rfl, rfl, rfl, Nat.le_refl _, fun k _ _ => rfl, fun _ _ => rfl⟩
    exact ⟨hh, h.turn (fun k _ => rfl) (Nat.le_refl _) (fun ms mk mf lv q1 q2 => ⟨ms, mk, mf, lv, q1, q2⟩), hst⟩
  have HFIN := Lib.hid hfin; clear hfin
  obtain ⟨ms, mk, mf, lv, h1, h2⟩ := h.out
  obtain ⟨⟨sv, kv, lv', cs, f1, f2, f3, f4, f5, f6⟩, fr⟩ := h2.each n fb hn
  have g0 : w.cell? ⟨a, 0, none⟩ = some (.int .i64 D.room) := cells_of h1 0
  have g1 : w.cell? ⟨a, 1, none⟩ = some (.int .i64 D.used) := cells_of h1 1
  have g2 : w.cell? ⟨fb, 0, none⟩ = some sv := cells_of f1 0
  have hlen : (D.cont n).seen.length ≤ maxLen := by
    rcases f2.owns.2 with ⟨_, h2⟩ | ⟨g, cap, _, h, _, _, h2, h3, _⟩
    · omega
    · omega
  obtain ⟨ps, cps, rfl⟩ : ∃ p c, sv = .slice p (D.cont n).seen.length c := by
    rcases f2.owns.2 with ⟨h, h2⟩ | ⟨g, cap, _, h, _⟩
    · exact ⟨none, 0, by rw [h, h2]⟩
    · exact ⟨_, cap, h⟩
  have hm : ((D.cont n).seen.length : Int) ≤ 9223372036854775807 := by unfold maxLen at hlen; omega
  have hdef : D.hasRoom n size = (decide (size - ((D.cont n).seen.length : Int) ≤ 0) || decide (size - ((D.cont n).seen.length : Int) ≤ D.room - D.used)) := rfl
  have HDEF := Lib.hid hdef
  clear h h1 h2 f1 f2 f3 f4 f5 f6 fr hn hlen hdef
  obtain ⟨hr1, hr2⟩ := hr
  obtain ⟨hu1, hu2⟩ := hu
  obtain ⟨hs1, hs2⟩ := hsz
  generalize D.hasRoom n size = hb at *
  generalize (D.cont n).seen.length = len at *
  by_cases h1 : size - (len : Int) ≤ 0
  · have e : hb = true := by rw [HDEF.out]; simp [h1]
    subst e
    clear HDEF
    go_enter Try.func36, Try.ntmps36
    go_wp2
    go_quiet (fail)
    go_wp2
    go_ret
    exact ⟨rfl, HFIN.out _⟩
  · have hw : IntKind.i64.wrap (D.room - D.used) = D.room - D.used := IntWalk.i64_in _ (by omega)
    have d1 : decide (size - (len : Int) ≤ 0) = false := by simp [h1]
    by_cases h2 : size - (len : Int) ≤ D.room - D.used
    · have e : hb = true := by rw [HDEF.out]; simp [h2]
      subst e
      clear HDEF
      first
        | have d2 : decide (size - (len : Int) ≤ D.room - D.used) = true := decide_eq_true h2
        | have d2 : decide (size - (len : Int) ≤ D.room - D.used) = false := decide_eq_false h2
      go_enter Try.func36, Try.ntmps36
      go_wp2
      go_quiet (fail)
      go_wp2
      go_ret
      exact ⟨rfl, HFIN.out _⟩
    · have e : hb = false := by rw [HDEF.out]; simp [h1, h2]
      subst e
      clear HDEF
      first
        | have d2 : decide (size - (len : Int) ≤ D.room - D.used) = true := decide_eq_true h2
        | have d2 : decide (size - (len : Int) ≤ D.room - D.used) = false := decide_eq_false h2
      go_enter Try.func36, Try.ntmps36
      go_wp2
      go_quiet (fail)
      go_wp2
      go_ret
      exact ⟨rfl, HFIN.out _⟩
end Go.Proofs.Ytldkeelgnfegeaa

/- The disk: Truncate. -/
namespace Go.Proofs.Ytldkeelgnfegeaa
open Go Go.RowKit Go.By

def FileA.alter (F : FileA) (o : ByteOp) : FileA := { F with seen := (redoOp allBits o 0 F.seen).1, laid := F.laid ++ [o] }
def FileA.more (F : FileA) (o : ByteOp) : Int := ((F.alter o).seen.length : Int) - F.seen.length
def DiskA.alterFile (D : DiskA) (n : Nat) (o : ByteOp) : DiskA :=
  { D.withFile n ((D.cont n).alter o) with used := D.used + (D.cont n).more o }
def DiskA.truncate (D : DiskA) (n : Nat) (size : Int) (x : Int) (D2 : DiskA) : Prop :=
  (D.hasRoom n size = false ∧ x = 4 ∧ D2 = D) ∨ (D.hasRoom n size = true ∧ x = 0 ∧ D2 = D.alterFile n (.cut size.toNat))

theorem alterDisk_any (own : Own) (a n fb : Nat) (D : DiskA) (c : Value) (o : ByteOp) (w : World) (h : DiskIs w own a D) (hn : Mp.get D.fm n = some fb) (ho : OpV w own c o) (hl : (D.cont n).laid.length < 1000000) :
    Calls Try.prog 37 #[.pointer (some ⟨fb, 0, none⟩), c] w fun e w' => e = .returned (.int .i64 ((D.cont n).more o)) ∧ w'.cell? ⟨a, 1, none⟩ = some (.int .i64 D.used) ∧ w'.frozen? ⟨a, 1, none⟩ = false ∧
      ∃ own', Steps own own' w (w'.setCell ⟨a, 1, none⟩ (.int .i64 (D.used + (D.cont n).more o))) ∧ DiskIs (w'.setCell ⟨a, 1, none⟩ (.int .i64 (D.used + (D.cont n).more o))) own' a (D.alterFile n o) := by
  obtain ⟨ms, mk, mf, lv, h1, h2⟩ := h.out
  refine (alterFile_any own n fb (D.cont n) c o w (h2.each n fb hn) ho h.here hl).mono ?_
  rintro e w' ⟨rfl, own', hf, hs⟩
  have hd := h.filed hn hf hs (by simp)
  obtain ⟨ms', mk', mf', lv', g1, g2⟩ := hd.out
  obtain ⟨q1, q2⟩ := hd.setUsed (D.used + (D.cont n).more o)
  exact ⟨rfl, cells_of g1 1, free_of g1 1, own', hs.steps.trans q2, q1⟩

set_option maxRecDepth 100000 in
set_option maxHeartbeats 200000 in
theorem truncate_any (own : Own) (a : Nat) (D : DiskA) (s : ByteArray) (size : Int) (w : World) (h : DiskIs w own a D) (hk : D.Ok) (ho : D.ops < 4611686018427387904) (hl : D.left < 4611686018427387904) (hs : s.size ≤ maxLen) (hll : ∀ n, (D.cont n).laid.length < 1000000)
    (hr : 0 ≤ D.room ∧ D.room ≤ 9223372036854775807) (hu : 0 ≤ D.used ∧ D.used ≤ 4611686018427387904) (hlen : ∀ n, (D.cont n).seen.length ≤ 1099511627776) :
    Calls Try.prog 15 #[.pointer (some ⟨a, 0, none⟩), .string s, .int .i64 size] w (Filed own a (D.begin (mayNumber size && mayName s)).1 (D.begin (mayNumber size && mayName s)).2 s ((D.begin (mayNumber size && mayName s)).1.truncate · size) w) := by
  have hfind := find_any own a D s (mayNumber size) w h hk ho hl hs
  have hsame := D.begin_same (mayNumber size && mayName s)
  have herr2 : (D.begin (mayNumber size && mayName s)).2 = 0 → mayNumber size = true := by
    unfold DiskA.begin
    split
    · intro h; cases h
    · intro h
      cases hm : mayNumber size
      · rw [hm] at h; simp at h
      · rfl
  obtain ⟨D1, hD1⟩ : ∃ D1, D1 = (D.begin (mayNumber size && mayName s)).1 := ⟨_, rfl⟩
  obtain ⟨err, herr⟩ : ∃ err, err = (D.begin (mayNumber size && mayName s)).2 := ⟨_, rfl⟩
  rw [← hD1] at hsame
  rw [← herr] at herr2
  rw [← hD1, ← herr] at hfind ⊢
  obtain ⟨_, _, _, _, hc, hro, hus, _⟩ := hsame
  rw [← hc] at hll hlen
  rw [← hro] at hr
  rw [← hus] at hu
  have HF := Lib.hid hfind; have HLL := Lib.hid hll; have HR := Lib.hid hr; have HU := Lib.hid hu; have HLEN := Lib.hid hlen; have HE2 := Lib.hid herr2
  clear hfind h hk ho hl hD1 herr hc hro hus hll hr hu hlen herr2
  obtain ⟨mn, hmn⟩ : ∃ mn, mn = mayNumber size := ⟨_, rfl⟩
  have hmay := fun w0 => mayNumber_any size w0
  rw [← hmn] at HF HE2 hmay
  have HMN := Lib.hid hmn; have HMAY := Lib.hid hmay
  clear hmn hmay
  go_enter Try.func15, Try.ntmps15
  go_wp2_with (go_at_call 35; refine (HMAY.out _).mono ?_; rintro e w1 ⟨rfl, rfl⟩)
  refine HF.out.mono ?_
  rintro e w1 ⟨hd, hst, ⟨he, rfl⟩ | ⟨rfl, hg, rfl⟩ | ⟨rfl, n, fb, hg, hfb, rfl⟩⟩
  · have HD := Lib.hid hd; have HST := Lib.hid hst; clear hd hst
    go_wp2
    go_ret
    exact ⟨own, HST.out, .inl ⟨he, rfl, HD.out⟩⟩
  · have HD := Lib.hid hd; have HST := Lib.hid hst; have HG := Lib.hid hg; clear hd hst hg
    go_wp2
    go_ret
    exact ⟨own, HST.out, .inr (.inl ⟨rfl, HG.out, rfl, HD.out⟩)⟩
  · have hsz : 0 ≤ size ∧ size ≤ 16777216 := by
      have := HMN.out.symm.trans (HE2.out rfl)
      unfold mayNumber at this
      simpa using this
    have hroom := hasRoom_any own a n fb D1 size w1 hd hfb HR.out HU.out (by omega)
    have HD := Lib.hid hd; have HST := Lib.hid hst; have HG := Lib.hid hg; have HFB := Lib.hid hfb; have HROOM := Lib.hid hroom
    clear hd hst hg hfb hroom
    go_wp2_with fail
    refine HROOM.out.mono ?_
    rintro e w2 ⟨rfl, _, hd2, hst2⟩
    cases hrm : D1.hasRoom n size
    · have HRM := Lib.hid hrm; have HD2 := Lib.hid hd2; have ST2 := Lib.hid (HST.out.trans hst2)
      clear hrm hd2 hst2
      go_wp2
      go_ret
      exact ⟨own, ST2.out, .inr (.inr ⟨rfl, n, 4, _, HG.out, .inl ⟨HRM.out, rfl, rfl⟩, rfl, HD2.out⟩)⟩
    · obtain ⟨m, rfl⟩ : ∃ m : Nat, size = m := ⟨size.toNat, by omega⟩
      have halt : ∀ w0 : World, w0.heap = w2.heap → w0.os = w2.os → w0.tape = w2.tape → w0.output = w2.output → Calls Try.prog 37 #[.pointer (some ⟨fb, 0, none⟩), .func (.func 38) #[.agg #[.int .i64 m]] #[]] w0 fun e w' => e = .returned (.int .i64 ((D1.cont n).more (.cut m))) ∧ w'.cell? ⟨a, 1, none⟩ = some (.int .i64 D1.used) ∧ w'.frozen? ⟨a, 1, none⟩ = false ∧
          ∃ own', Steps own own' w (w'.setCell ⟨a, 1, none⟩ (.int .i64 (D1.used + (D1.cont n).more (.cut m)))) ∧ DiskIs (w'.setCell ⟨a, 1, none⟩ (.int .i64 (D1.used + (D1.cont n).more (.cut m)))) own' a (D1.alterFile n (.cut m)) := fun w0 e1 e2 e3 e4 => by
        have hs0 : Steps own own w2 w0 := ⟨e2, e3, e4, by rw [e1]; exact Nat.le_refl _, fun k _ _ => by rw [e1], fun _ _ => rfl⟩
        have hd0 : DiskIs w0 own a D1 := hd2.turn (fun k _ => by rw [e1]) (by rw [e1]; exact Nat.le_refl _) (fun ms mk mf lv q1 q2 => ⟨ms, mk, mf, lv, by rw [e1]; exact q1, q2⟩)
        refine (alterDisk_any own a n fb D1 _ (.cut m) w0 hd0 HFB.out ⟨rfl, by omega⟩ (HLL.out n)).mono ?_
        rintro e w' ⟨q1, q2, q3, own', q4, q5⟩
        exact ⟨q1, q2, q3, own', ((HST.out.trans hst2).trans hs0).trans q4, q5⟩
      have hx : -1099511627777 ≤ (D1.cont n).more (.cut m) ∧ (D1.cont n).more (.cut m) ≤ 16777217 := by
        have := HLEN.out n
        have e : ((D1.cont n).alter (.cut m)).seen.length = m := by
          show (redoOp allBits (.cut m) 0 (D1.cont n).seen).1.length = m
          show (if allBits 0 then fitL (D1.cont n).seen m else (D1.cont n).seen).length = m
          simp [allBits, fitL_length]
        unfold FileA.more
        rw [e]
        omega
      have hfin : D1.truncate n m 0 (D1.alterFile n (.cut m)) := .inr ⟨hrm, rfl, by simp⟩
      obtain ⟨ms, mk, mf, lv, h1, _⟩ := hd2.out
      have g1 : w2.cell? ⟨a, 1, none⟩ = some (.int .i64 D1.used) := cells_of h1 1
      have HRM := Lib.hid hrm; have HALT := Lib.hid halt; have HFIN := Lib.hid hfin
      obtain ⟨hx1, hx2⟩ := hx
      obtain ⟨hu1, hu2⟩ := HU.out
      generalize (D1.cont n).more (.cut m) = x at *
      have hw : IntKind.i64.wrap (D1.used + x) = D1.used + x := IntWalk.i64_in _ (by omega)
      clear hrm hd2 hst2 halt hfin h1 hx1 hx2 hu1 hu2
      go_wp2
      go_region_with (go_at_call 37; refine (HALT.out _ (by rfl) (by rfl) (by rfl) (by rfl)).mono ?_; rintro e w3 ⟨rfl, k1, k2, k3⟩)
      all_goals
        have K3 := Lib.hid k3
        clear k1 k2 k3
        go_wp2
        go_ret
        obtain ⟨own3, k4, k5⟩ := K3.out
        exact ⟨own3, k4, .inr (.inr ⟨rfl, n, 0, _, HG.out, HFIN.out, rfl, k5⟩)⟩
end Go.Proofs.Ytldkeelgnfegeaa

/- The disk: bytes.Clone. -/
namespace Go.Proofs.Ytldkeelgnfegeaa
open Go Go.RowKit Go.By

set_option maxRecDepth 100000 in
theorem clone_any (v : Value) (l : List Nat) (w : World) (hv : Bytes w v l) (hl : l.length ≤ 17592186044416) :
    Calls Try.prog 50 #[v] w fun e w' => ∃ v', e = .returned v' ∧ w'.ownsRow 0 5 1 v' l.length (cellsOf l) ∧ (∀ k, v'.ownBlock = some k → w.heap.size ≤ k) ∧ Below w.heap.size w w' := by
  obtain ⟨p, cap, rfl, _⟩ := hv.any
  have HV := Lib.hid hv
  clear hv
  have hn : ∀ (q : Option Addr) (n c : Nat) (w0 : World), (binOp .eql 34 (.slice q n c) (.slice none 0 0)).run Try.prog w0 = .ok (.bool q.isNone) w0 := fun q n c w0 => Lib.run_eql_slice_nil w0 _ _ q n c 0 0 bytesT.slice
  cases p with
  | none =>
    have hl0 : l = [] := by
      rcases HV.out.out with ⟨_, h⟩ | ⟨a, h, _⟩ | ⟨b, o, c, h, _⟩
      · exact h
      · cases h
      · cases h
    subst hl0
    go_enter Try.func50, Try.ntmps50
    go_wp2
    go_ret
    exact ⟨_, rfl, World.ownsRow_nil _ _ _ _, fun k hk => (by cases hk), Below.refl _ _⟩
  | some ad =>
    go_enter Try.func50, Try.ntmps50
    go_wp2_with (at_builtin; refine wpList_append_bytes rfl (.tmp 5) (.tmp 6) bytesT rfl w.heap.size (.slice (some ⟨w.heap.size, 0, none⟩) 0 0) 0 [] rfl (World.ownsRow_made w #[] 0 (Nat.le_refl _) (by decide) rfl) (.slice (some ad) l.length cap) l rfl (HV.out.below ((Below.refl _ _).alloc (Nat.le_refl _) _)) (by omega) (by simp) ?_; intro v1 w1 hown hgrow hnil)
    have hb : Below w.heap.size w w1 := ⟨hgrow.os, hgrow.tape, hgrow.output, by have := hgrow.size; simp at this; omega, fun k hk => (hgrow.block k (by simp; omega) (by simp [Value.ownBlock]; omega)).trans (Below.heap_alloc w _ k hk)⟩
    have hk : ∀ k, v1.ownBlock = some k → w.heap.size ≤ k := fun k hk => by
      rcases hown.2 with ⟨h, _⟩ | ⟨g, c, cur, h, hg, _⟩
      · rw [h] at hk; cases hk
      · rw [h] at hk; cases hk; exact hg
    have hown0 : w1.ownsRow 0 5 1 v1 l.length (cellsOf l) := by
      have h := hown
      rw [Nat.zero_add, List.nil_append] at h
      refine ⟨h.1, ?_⟩
      rcases h.2 with h' | ⟨g, c, cur, h1, _, h3⟩
      · exact .inl h'
      · exact .inr ⟨g, c, cur, h1, Nat.zero_le _, h3⟩
    have HOWN := Lib.hid hown0; have HB := Lib.hid hb; have HK := Lib.hid hk
    obtain ⟨p1, c1, rfl⟩ : ∃ p c, v1 = .slice p l.length c := by
      rcases hown.2 with ⟨h, h2⟩ | ⟨g, c, _, h, _⟩
      · exact ⟨none, 0, by rw [h]; congr 1; omega⟩
      · exact ⟨_, c, by rw [h]; congr 1; omega⟩
    clear hown hgrow hnil hb hk hown0
    go_wp2
    go_ret
    exact ⟨_, rfl, HOWN.out, HK.out, HB.out⟩
end Go.Proofs.Ytldkeelgnfegeaa

/- The disk: Write. -/
namespace Go.Proofs.Ytldkeelgnfegeaa
open Go Go.RowKit Go.By

theorem putL_length (l : List Nat) (off : Nat) (p : List Nat) : (putL l off p).length = max l.length (off + p.length) := by
  unfold putL
  split
  · rw [overL_length (by rw [fitL_length]; omega), fitL_length]; omega
  · rw [overL_length (by omega)]; omega
theorem redoWrite_length {off : Nat} {b : List Nat} {bit : Nat → Bool} : ∀ (f k i : Nat) (l : List Nat), k ≤ b.length → l.length ≤ (redoWrite off b bit f k i l).1.length ∧ (redoWrite off b bit f k i l).1.length ≤ max l.length (off + b.length)
  | 0, _, _, _, _ => ⟨Nat.le_refl _, Nat.le_max_left _ _⟩
  | f + 1, k, i, l, hk => by
    unfold redoWrite
    split
    · rename_i hlt
      have hp := pieceLen_le off b.length k
      have hp0 := pieceLen_pos (off := off) hlt
      have h := redoWrite_length (off := off) (b := b) (bit := bit) f (k + pieceLen off b.length k) (i + 1) (if bit i then putL l (off + k) ((b.drop k).take (pieceLen off b.length k)) else l) (by omega)
      have hl : ((b.drop k).take (pieceLen off b.length k)).length = pieceLen off b.length k := by simp; omega
      split at h
      · rename_i hb
        rw [putL_length, hl] at h
        rw [if_pos hb]
        exact ⟨by omega, by omega⟩
      · rename_i hb
        rw [if_neg hb]
        exact h
    · exact ⟨Nat.le_refl _, Nat.le_max_left _ _⟩

theorem Bytes.steps {own own' : Own} {w w' : World} {v : Value} {l : List Nat} (h : Bytes w v l) (hs : Steps own own' w w') (hk : ∀ k, v.ownBlock = some k → own k = none ∨ own k = some .ink) : Bytes w' v l where
  out := by
    rcases h.out with h1 | h1 | ⟨b, off, cap, rfl, h2, hc⟩
    · exact .inl h1
    · exact .inr (.inl h1)
    · refine .inr (.inr ⟨b, off, cap, rfl, h2, fun i hi => ?_⟩)
      have := hc i hi
      exact (World.cell?_of_block (hs.block b (block_lt_of_cell this) (hk b rfl))).trans this
  small := h.small
  short := h.short

theorem Bytes.stepsE {own own' : Own} {w w' : World} {v : Value} {l : List Nat} (h : Bytes w v l) (hs : Steps own own' w w') (hk : l ≠ [] → ∀ k, v.ownBlock = some k → own k = none ∨ own k = some .ink) : Bytes w' v l where
  out := by
    rcases h.out with h1 | h1 | ⟨b, off, cap, rfl, h2, hc⟩
    · exact .inl h1
    · exact .inr (.inl h1)
    · refine .inr (.inr ⟨b, off, cap, rfl, h2, fun i hi => ?_⟩)
      have := hc i hi
      exact (World.cell?_of_block (hs.block b (block_lt_of_cell this) (hk (by intro e; subst e; exact absurd hi (Nat.not_lt_zero _)) b rfl))).trans this
  small := h.small
  short := h.short

theorem Bytes.same {w w' : World} {v : Value} {l : List Nat} (h : Bytes w v l) (e : w'.heap = w.heap) : Bytes w' v l where
  out := by
    rcases h.out with h1 | h1 | ⟨b, off, cap, rfl, h2, hc⟩
    · exact .inl h1
    · exact .inr (.inl h1)
    · exact .inr (.inr ⟨b, off, cap, rfl, h2, fun i hi => (World.cell?_of_block (by rw [e])).trans (hc i hi)⟩)
  small := h.small
  short := h.short

/-- A copy of some bytes becomes the disk's ink. -/
theorem inked {own : Own} {w w' : World} {a : Nat} {D : DiskA} {v : Value} {l : List Nat} (h : DiskIs w own a D) (hown : w'.ownsRow 0 5 1 v l.length (cellsOf l)) (hk : ∀ k, v.ownBlock = some k → w.heap.size ≤ k) (hb : Below w.heap.size w w') :
    ∃ own', DiskIs w' own' a D ∧ Steps own own' w w' ∧ ∀ k, v.ownBlock = some k → own' k = some .ink := by
  obtain ⟨o1, a1, a2, a3, a4⟩ := own_went h.here (v := .slice none 0 0) (v' := v) (r := .ink) (w' := w') (fun k hk => by cases hk) (by
    cases e : v.ownBlock with
    | none => exact .inl rfl
    | some q => exact .inr ⟨q, rfl, hk q e⟩) (fun k hk => by
    rcases hown.2 with ⟨e, _⟩ | ⟨g, c, cur, e, _, hg, _⟩
    · rw [e] at hk; cases hk
    · rw [e] at hk; cases hk; exact (Array.getElem?_eq_some_iff.1 hg).1)
  obtain ⟨ms, mk, mf, lv, h1, h2⟩ := h.out
  have hs : Stay own o1 (fun _ => True) w w' := ⟨a2, fun k r hk _ => hb.block k (h.here k r hk)⟩
  refine ⟨o1, ⟨⟨ms, mk, mf, lv, (hs.block a _ h.role trivial).trans h1, h2.stay (hs.weaken fun _ _ => trivial)⟩, a2 a _ h.role, fun k hk => ?_, fun k r hk => ?_⟩, ⟨hb.os, hb.tape, hb.output, hb.size, fun k hk _ => hb.block k hk, a1⟩, a3⟩
  · rcases a4 k _ hk with h' | ⟨_, _, h'⟩
    · exact h.only k h'
    · cases h'
  · rcases a4 k r hk with h' | ⟨_, h', _⟩
    · exact Nat.lt_of_lt_of_le (h.here k r h') hb.size
    · exact h'

def DiskA.write (D : DiskA) (n : Nat) (off : Int) (b : List Nat) (x : Int) (D2 : DiskA) : Prop :=
  (b = [] ∧ x = 0 ∧ D2 = D) ∨ (b ≠ [] ∧ D.hasRoom n (off + b.length) = false ∧ x = 4 ∧ D2 = D) ∨ (b ≠ [] ∧ D.hasRoom n (off + b.length) = true ∧ x = 0 ∧ D2 = D.alterFile n (.write off.toNat b))

theorem same_steps {own : Own} {w w0 : World} (e1 : w0.heap = w.heap) (e2 : w0.os = w.os) (e3 : w0.tape = w.tape) (e4 : w0.output = w.output) : Steps own own w w0 :=
  ⟨e2, e3, e4, by rw [e1]; exact Nat.le_refl _, fun k _ _ => by rw [e1], fun _ _ => rfl⟩
theorem DiskIs.same {own : Own} {w w0 : World} {a : Nat} {D : DiskA} (h : DiskIs w own a D) (e1 : w0.heap = w.heap) : DiskIs w0 own a D :=
  h.turn (fun k _ => by rw [e1]) (by rw [e1]; exact Nat.le_refl _) (fun ms mk mf lv q1 q2 => ⟨ms, mk, mf, lv, by rw [e1]; exact q1, q2⟩)

/-- Behind the copy, the rest of a write. -/
def WriteRest (own : Own) (a n fb : Nat) (D1 : DiskA) (off : Nat) (b : List Nat) (x : Int) (w w4 : World) (v : Value) : Prop :=
  w4.cell? ⟨a, 1, none⟩ = some (.int .i64 D1.used) ∧
  ∀ w0 : World, w0.heap = w4.heap → w0.os = w4.os → w0.tape = w4.tape → w0.output = w4.output → Calls Try.prog 37 #[.pointer (some ⟨fb, 0, none⟩), .func (.func 57) #[.agg #[.int .i64 off, v]] #[]] w0 fun e w' => e = .returned (.int .i64 x) ∧
    w'.cell? ⟨a, 1, none⟩ = some (.int .i64 D1.used) ∧ w'.frozen? ⟨a, 1, none⟩ = false ∧
    ∃ own', Steps own own' w (w'.setCell ⟨a, 1, none⟩ (.int .i64 (D1.used + x))) ∧ DiskIs (w'.setCell ⟨a, 1, none⟩ (.int .i64 (D1.used + x))) own' a (D1.alterFile n (.write off b))

theorem write_rest {own : Own} {a n fb : Nat} {D1 : DiskA} {off : Nat} {b : List Nat} {w w2 w3 w4 : World} {v : Value} (hd : DiskIs w2 own a D1) (hst : Steps own own w w2) (hfb : Mp.get D1.fm n = some fb) (hl : (D1.cont n).laid.length < 1000000) (hoff : off ≤ 16777216) (hb0 : 0 < b.length) (hbl : b.length ≤ 1048576) (hs : ∀ c ∈ b, c < 256)
    (e1 : w3.heap = w2.heap) (e2 : w3.os = w2.os) (e3 : w3.tape = w2.tape) (e4 : w3.output = w2.output)
    (hown : w4.ownsRow 0 5 1 v b.length (cellsOf b)) (hk : ∀ k, v.ownBlock = some k → w3.heap.size ≤ k) (hbel : Below w3.heap.size w3 w4) : WriteRest own a n fb D1 off b ((D1.cont n).more (.write off b)) w w4 v := by
  have hd3 := hd.same e1
  obtain ⟨o1, hd4, hs4, hink⟩ := inked hd3 hown hk hbel
  obtain ⟨ms, mk, mf, lv, h1, _⟩ := hd4.out
  refine ⟨cells_of h1 1, fun w0 q1 q2 q3 q4 => ?_⟩
  have hd0 := hd4.same q1
  have ho : OpV w0 o1 (.func (.func 57) #[.agg #[.int .i64 off, v]] #[]) (.write off b) :=
    ⟨v, rfl, Bytes.of_owns (ownsRow_of_heap hown fun k _ => by rw [q1]) hs (by unfold maxLen; omega), hink, hb0, hoff, hbl⟩
  refine (alterDisk_any o1 a n fb D1 _ (.write off b) w0 hd0 hfb ho hl).mono ?_
  rintro e w' ⟨k1, k2, k3, own', k4, k5⟩
  exact ⟨k1, k2, k3, own', (((hst.trans (same_steps e1 e2 e3 e4)).trans hs4).trans (same_steps q1 q2 q3 q4)).trans k4, k5⟩
end Go.Proofs.Ytldkeelgnfegeaa

/- The disk: Write. -/
namespace Go.Proofs.Ytldkeelgnfegeaa
open Go Go.RowKit Go.By

set_option maxRecDepth 100000 in
set_option maxHeartbeats 8000000 in
theorem write_any (own : Own) (a : Nat) (D : DiskA) (s : ByteArray) (off : Int) (bv : Value) (b : List Nat) (w : World) (h : DiskIs w own a D) (hk : D.Ok) (ho : D.ops < 4611686018427387904) (hl : D.left < 4611686018427387904) (hs : s.size ≤ maxLen) (hll : ∀ n, (D.cont n).laid.length < 1000000)
    (hr : 0 ≤ D.room ∧ D.room ≤ 9223372036854775807) (hu : 0 ≤ D.used ∧ D.used ≤ 4611686018427387904) (hlen : ∀ n, (D.cont n).seen.length ≤ 1099511627776) (hb : Bytes w bv b) (hbk : b ≠ [] → ∀ k, bv.ownBlock = some k → own k = none ∨ own k = some .ink) (hbl : b.length ≤ 1048576) :
    Calls Try.prog 44 #[.pointer (some ⟨a, 0, none⟩), .string s, .int .i64 off, bv] w (Filed own a (D.begin (mayNumber off && mayName s)).1 (D.begin (mayNumber off && mayName s)).2 s ((D.begin (mayNumber off && mayName s)).1.write · off b) w) := by
  have hfind := find_any own a D s (mayNumber off) w h hk ho hl hs
  have hsame := D.begin_same (mayNumber off && mayName s)
  have herr2 : (D.begin (mayNumber off && mayName s)).2 = 0 → mayNumber off = true := by
    unfold DiskA.begin
    split
    · intro h; cases h
    · intro h
      cases hm : mayNumber off
      · rw [hm] at h; simp at h
      · rfl
  obtain ⟨D1, hD1⟩ : ∃ D1, D1 = (D.begin (mayNumber off && mayName s)).1 := ⟨_, rfl⟩
  obtain ⟨err, herr⟩ : ∃ err, err = (D.begin (mayNumber off && mayName s)).2 := ⟨_, rfl⟩
  rw [← hD1] at hsame
  rw [← herr] at herr2
  rw [← hD1, ← herr] at hfind ⊢
  obtain ⟨_, _, _, _, hc, hro, hus, _⟩ := hsame
  rw [← hc] at hll hlen
  rw [← hro] at hr
  rw [← hus] at hu
  have HF := Lib.hid hfind; have HLL := Lib.hid hll; have HR := Lib.hid hr; have HU := Lib.hid hu; have HLEN := Lib.hid hlen; have HE2 := Lib.hid herr2
  clear hfind h hk ho hl hD1 herr hc hro hus hll hr hu hlen herr2
  obtain ⟨mn, hmn⟩ : ∃ mn, mn = mayNumber off := ⟨_, rfl⟩
  have hmay := fun w0 => mayNumber_any off w0
  rw [← hmn] at HF HE2 hmay
  have HMN := Lib.hid hmn; have HMAY := Lib.hid hmay
  clear hmn hmay
  obtain ⟨p, cap, rfl, _⟩ := hb.any
  have HB := Lib.hid hb; have HBK := Lib.hid hbk; have HBL := Lib.hid hbl
  clear hb hbk
  go_enter Try.func44, Try.ntmps44
  go_wp2_with (go_at_call 35; refine (HMAY.out _).mono ?_; rintro e w1 ⟨rfl, rfl⟩)
  refine HF.out.mono ?_
  rintro e w1 ⟨hd, hst, ⟨he, rfl⟩ | ⟨rfl, hg, rfl⟩ | ⟨rfl, n, fb, hg, hfb, rfl⟩⟩
  · have HD := Lib.hid hd; have HST := Lib.hid hst; clear hd hst
    go_wp2
    go_ret
    exact ⟨own, HST.out, .inl ⟨he, rfl, HD.out⟩⟩
  · have HD := Lib.hid hd; have HST := Lib.hid hst; have HG := Lib.hid hg; clear hd hst hg
    go_wp2
    go_ret
    exact ⟨own, HST.out, .inr (.inl ⟨rfl, HG.out, rfl, HD.out⟩)⟩
  · have hsz : 0 ≤ off ∧ off ≤ 16777216 := by
      have := HMN.out.symm.trans (HE2.out rfl)
      unfold mayNumber at this
      simpa using this
    have hb1 := Bytes.stepsE HB.out hst HBK.out
    have HB1 := Lib.hid hb1
    clear hb1
    by_cases hb0 : b.length = 0
    · have e : b = [] := List.eq_nil_of_length_eq_zero hb0
      have HD := Lib.hid hd; have HST := Lib.hid hst; have HG := Lib.hid hg; have HE := Lib.hid e
      clear hd hst hg e hfb
      have hd2 : decide ((b.length : Int) = 0) = true := by simp [hb0]
      go_wp2
      go_ret
      exact ⟨own, HST.out, .inr (.inr ⟨rfl, n, 0, D1, HG.out, .inl ⟨HE.out, rfl, rfl⟩, rfl, HD.out⟩)⟩
    · obtain ⟨m, rfl⟩ : ∃ m : Nat, off = m := ⟨off.toNat, by omega⟩
      have hne : b ≠ [] := fun e => hb0 (by rw [e]; rfl)
      have hb0i : ¬ (b.length : Int) = 0 := by omega
      have hd2 : decide ((b.length : Int) = 0) = false := by simp [hb0]
      have hbl1 : b.length ≤ 1048576 := HBL.out
      have hroom := hasRoom_any own a n fb D1 ((m : Int) + b.length) w1 hd hfb HR.out HU.out (by omega)
      have hw0 : IntKind.i64.wrap ((m : Int) + b.length) = (m : Int) + b.length := IntWalk.i64_in _ (by omega)
      have HD := Lib.hid hd; have HST := Lib.hid hst; have HG := Lib.hid hg; have HFB := Lib.hid hfb; have HROOM := Lib.hid hroom; have HNE := Lib.hid hne; have HSZ := Lib.hid hsz
      clear hd hst hg hfb hroom hne
      go_wp2_with fail
      refine HROOM.out.mono ?_
      rintro e w2 ⟨rfl, _, hd2', hst2⟩
      cases hrm : D1.hasRoom n ((m : Int) + b.length)
      · have HRM := Lib.hid hrm; have HD2 := Lib.hid hd2'; have ST2 := Lib.hid (HST.out.trans hst2)
        clear hrm hd2' hst2
        go_wp2
        go_ret
        exact ⟨own, ST2.out, .inr (.inr ⟨rfl, n, 4, _, HG.out, .inr (.inl ⟨HNE.out, HRM.out, rfl, rfl⟩), rfl, HD2.out⟩)⟩
      · obtain ⟨ms, mk, mf, lv, h1, _⟩ := hd2'.out
        have g1 : w2.cell? ⟨a, 1, none⟩ = some (.int .i64 D1.used) := cells_of h1 1
        have hb2 := Bytes.stepsE HB1.out hst2 HBK.out
        have hrest : ∀ (w3 w4 : World) (v : Value), w3.heap = w2.heap → w3.os = w2.os → w3.tape = w2.tape → w3.output = w2.output → w4.ownsRow 0 5 1 v b.length (cellsOf b) → (∀ k, v.ownBlock = some k → w3.heap.size ≤ k) → Below w3.heap.size w3 w4 →
            WriteRest own a n fb D1 m b ((D1.cont n).more (.write m b)) w w4 v := fun w3 w4 v e1 e2 e3 e4 q1 q2 q3 => write_rest hd2' (HST.out.trans hst2) HFB.out (HLL.out n) (by omega) (by omega) hbl1 hb2.small e1 e2 e3 e4 q1 q2 q3
        have hclone : ∀ w3 : World, w3.heap = w2.heap → Calls Try.prog 50 #[.slice p b.length cap] w3 fun e w' => ∃ p' c', e = .returned (.slice p' b.length c') ∧ w'.ownsRow 0 5 1 (.slice p' b.length c') b.length (cellsOf b) ∧ (∀ k, (Value.slice p' b.length c').ownBlock = some k → w3.heap.size ≤ k) ∧ Below w3.heap.size w3 w' := fun w3 e1 => (clone_any _ b w3 (Bytes.same hb2 e1) (by omega)).mono (by
          rintro e w' ⟨v', rfl, q1, q2, q3⟩
          rcases q1.2 with ⟨h, h2⟩ | ⟨g, c, cur, h, h3⟩
          · exact ⟨none, 0, by rw [h, h2], by rw [h, h2] at q1; rw [h2]; exact q1, fun k hk => (by cases hk), q3⟩
          · subst h; exact ⟨_, _, rfl, q1, q2, q3⟩)
        have hx : 0 ≤ (D1.cont n).more (.write m b) ∧ (D1.cont n).more (.write m b) ≤ 1099511627776 := by
          have h1 := HLEN.out n
          have h2 := redoWrite_length (off := m) (b := b) (bit := allBits) b.length 0 0 (D1.cont n).seen (Nat.zero_le _)
          have e : ((D1.cont n).alter (.write m b)).seen = (redoWrite m b allBits b.length 0 0 (D1.cont n).seen).1 := rfl
          unfold FileA.more
          rw [e]
          omega
        have hfin : D1.write n m b 0 (D1.alterFile n (.write m b)) := .inr (.inr ⟨HNE.out, hrm, rfl, by simp⟩)
        have HREST := Lib.hid hrest; have HCL := Lib.hid hclone; have HFIN := Lib.hid hfin
        obtain ⟨hx1, hx2⟩ := hx
        obtain ⟨hu1, hu2⟩ := HU.out
        generalize (D1.cont n).more (.write m b) = x at *
        have hw : IntKind.i64.wrap (D1.used + x) = D1.used + x := IntWalk.i64_in _ (by omega)
        clear hrm hd2' hst2 hrest hclone hfin h1 hx1 hx2 hu1 hu2 hb2 hw0
        go_wp2
        go_region_with (first
          | (go_at_call 50; refine (HCL.out _ (by rfl)).mono ?_; rintro e w4 ⟨p4, c4, rfl, k1, k2, k3⟩; obtain ⟨k5, k6⟩ := HREST.out _ _ _ (by rfl) (by rfl) (by rfl) (by rfl) k1 k2 k3; have HK6 := Lib.hid k6; clear k6 k1 k2 k3)
          | (go_at_call 37; refine (HK6.out _ (by rfl) (by rfl) (by rfl) (by rfl)).mono ?_; rintro e w5 ⟨rfl, k7, k8, k9⟩; have K9 := Lib.hid k9; clear k9))
        all_goals
          go_wp2
          go_ret
          obtain ⟨own3, k4, k5⟩ := K9.out
          exact ⟨own3, k4, .inr (.inr ⟨rfl, n, 0, _, HG.out, HFIN.out, rfl, k5⟩)⟩
end Go.Proofs.Ytldkeelgnfegeaa

/- The disk: Read. -/
namespace Go.Proofs.Ytldkeelgnfegeaa
open Go Go.RowKit Go.By

theorem diskT_size (w : World) : (sizeOf (Try.prog.elem 34)).run Try.prog w = .ok 1 w := by kernel_rfl
/-- b[i:i+n]. -/
theorem cut_run {w : World} {p : Option Addr} {cap : Nat} {l : List Nat} (h : Bytes w (.slice p l.length cap) l) (i n : Nat) (hn : i + n ≤ l.length) :
    ∃ q c, (∀ w0 : World, (Instr.slice 34 (.slice p l.length cap) (some (.int .i64 (i : Int))) (some (.int .i64 ((i : Int) + (n : Int)))) none).run Try.prog w0 = .ok (.slice q n c) w0) ∧ Bytes w (.slice q n c) ((l.drop i).take n) := by
  have hcap := h.room.2
  have hr := fun w0 => run_slice_lh (P := Try.prog) w0 34 p l.length cap (by kernel_rfl) .i64 .i64 (i : Int) ((i : Int) + (n : Int)) (by omega) (by omega) (by omega)
  have e1 : ((i : Int) + (n : Int)).toNat = i + n := by omega
  have e2 : (i : Int).toNat = i := by omega
  simp only [diskT_size, Result.andThen, e1, e2, sliced, Nat.add_sub_cancel_left, Nat.mul_one] at hr
  refine ⟨_, _, hr, ?_⟩
  have hpl : ((l.drop i).take n).length = n := by simp; omega
  have hps : ∀ c ∈ (l.drop i).take n, c < 256 := fun c hc => h.small c (List.mem_of_mem_drop (List.mem_of_mem_take hc))
  rcases h.out with ⟨h1, rfl⟩ | ⟨a, h1, rfl⟩ | ⟨b, off, cap', h1, h2, hc⟩
  · simp only [Value.slice.injEq] at h1
    obtain ⟨rfl, _, rfl⟩ := h1
    simp only [List.length_nil] at hn
    obtain rfl : i = 0 := by omega
    obtain rfl : n = 0 := by omega
    simpa using Bytes.nil w
  · simp only [Value.slice.injEq] at h1
    obtain ⟨rfl, _, rfl⟩ := h1
    simp only [List.length_nil] at hn
    obtain rfl : i = 0 := by omega
    obtain rfl : n = 0 := by omega
    simp only [↓reduceIte, Nat.sub_zero, List.drop_nil, List.take_nil]
    exact ⟨.inr (.inl ⟨a, rfl, rfl⟩), by simp, by simp⟩
  · simp only [Value.slice.injEq, true_and] at h1
    obtain ⟨rfl, rfl⟩ := h1
    by_cases he : cap = i
    · obtain rfl : n = 0 := by omega
      rw [if_pos he]
      subst he
      simp only [Nat.sub_self, List.take_zero]
      exact ⟨.inr (.inl ⟨_, rfl, rfl⟩), by simp, by simp⟩
    · rw [if_neg he]
      refine ⟨.inr (.inr ⟨b, off + i, cap - i, by simp [Addr.add_lit, hpl], by rw [hpl]; omega, fun j hj => ?_⟩), hps, by rw [hpl]; have := h.short; omega⟩
      rw [hpl] at hj
      rw [Nat.add_assoc, hc (i + j) (by omega), atB_take hj]
      simp only [atB, List.getD_eq_getElem?_getD, List.getElem?_drop]

def ReadOut (own : Own) (a : Nat) (D1 : DiskA) (err : Int) (s : ByteArray) (off n : Int) (w : World) (e : Ending) (w' : World) : Prop :=
  Steps own own w w' ∧ DiskIs w' own a D1 ∧
   ((err ≠ 0 ∧ e = .returned (.tuple #[.slice none 0 0, .int .i64 err])) ∨ (err = 0 ∧ Mp.get D1.seen s = none ∧ e = .returned (.tuple #[.slice none 0 0, .int .i64 3])) ∨
    (err = 0 ∧ 0 ≤ off ∧ 0 ≤ n ∧ ∃ k, Mp.get D1.seen s = some k ∧
      ((((D1.cont k).seen.length : Int) < off + n ∧ e = .returned (.tuple #[.slice none 0 0, .int .i64 2])) ∨
       (off + n ≤ ((D1.cont k).seen.length : Int) ∧ ∃ v, e = .returned (.tuple #[v, .int .i64 0]) ∧ w'.ownsRow w.heap.size 5 1 v n.toNat (cellsOf (((D1.cont k).seen.drop off.toNat).take n.toNat))))))

set_option maxRecDepth 100000 in
set_option maxHeartbeats 4000000 in
theorem read_any (own : Own) (a : Nat) (D : DiskA) (s : ByteArray) (off n : Int) (w : World) (h : DiskIs w own a D) (hk : D.Ok) (ho : D.ops < 4611686018427387904) (hl : D.left < 4611686018427387904) (hs : s.size ≤ maxLen) (hlen : ∀ n, (D.cont n).seen.length ≤ 1099511627776) :
    Calls Try.prog 27 #[.pointer (some ⟨a, 0, none⟩), .string s, .int .i64 off, .int .i64 n] w (ReadOut own a (D.begin ((mayNumber off && mayNumber n) && mayName s)).1 (D.begin ((mayNumber off && mayNumber n) && mayName s)).2 s off n w) := by
  have hfind := find_any own a D s (mayNumber off && mayNumber n) w h hk ho hl hs
  have hsame := D.begin_same ((mayNumber off && mayNumber n) && mayName s)
  have herr2 : (D.begin ((mayNumber off && mayNumber n) && mayName s)).2 = 0 → mayNumber off = true ∧ mayNumber n = true := by
    unfold DiskA.begin
    split
    · intro h; cases h
    · intro h
      cases hm : mayNumber off
      · rw [hm] at h; simp at h
      · cases hm2 : mayNumber n
        · rw [hm, hm2] at h; simp at h
        · exact ⟨rfl, rfl⟩
  obtain ⟨D1, hD1⟩ : ∃ D1, D1 = (D.begin ((mayNumber off && mayNumber n) && mayName s)).1 := ⟨_, rfl⟩
  obtain ⟨err, herr⟩ : ∃ err, err = (D.begin ((mayNumber off && mayNumber n) && mayName s)).2 := ⟨_, rfl⟩
  rw [← hD1] at hsame
  rw [← herr] at herr2
  rw [← hD1, ← herr] at hfind ⊢
  obtain ⟨_, _, _, _, hc, _⟩ := hsame
  rw [← hc] at hlen
  have HF := Lib.hid hfind; have HLEN := Lib.hid hlen; have HE2 := Lib.hid herr2
  clear hfind h hk ho hl hD1 herr hc hlen herr2
  have hmo := fun w0 => mayNumber_any off w0
  have hmn := fun w0 => mayNumber_any n w0
  have hb : (mayNumber off = true → 0 ≤ off ∧ off ≤ 16777216) ∧ (mayNumber n = true → 0 ≤ n ∧ n ≤ 16777216) := by
    unfold mayNumber; simp
  have HNB := Lib.hid hb
  clear hb
  obtain ⟨mo, hmo2⟩ : ∃ mn, mn = mayNumber off := ⟨_, rfl⟩
  obtain ⟨mn, hmn2⟩ : ∃ mn, mn = mayNumber n := ⟨_, rfl⟩
  rw [← hmo2] at HF HE2 hmo HNB
  rw [← hmn2] at HF HE2 hmn HNB
  have HMO := Lib.hid hmo; have HMN := Lib.hid hmn
  clear hmo hmn hmo2 hmn2
  cases mo
  case false =>
    go_enter Try.func27, Try.ntmps27
    go_wp2_with (go_at_call 35; first | (refine (HMO.out _).mono ?_; rintro e w1 ⟨rfl, rfl⟩) | (refine (HMN.out _).mono ?_; rintro e w1 ⟨rfl, rfl⟩))
    simp only [Bool.false_and] at HF
    refine HF.out.mono ?_
    rintro e w1 ⟨hd, hst, ⟨he, rfl⟩ | ⟨rfl, hg, rfl⟩ | ⟨rfl, k, fb, hg, hfb, rfl⟩⟩
    · have HD := Lib.hid hd; have HST := Lib.hid hst; clear hd hst
      go_wp2
      go_ret2
      exact ⟨HST.out, HD.out, .inl ⟨he, rfl⟩⟩
    · exact absurd (HE2.out rfl).1 (by decide)
    · exact absurd (HE2.out rfl).1 (by decide)
  case true =>
    go_enter Try.func27, Try.ntmps27
    go_wp2_with (go_at_call 35; first | (refine (HMO.out _).mono ?_; rintro e w1 ⟨rfl, rfl⟩) | (refine (HMN.out _).mono ?_; rintro e w1 ⟨rfl, rfl⟩))
    simp only [Bool.true_and] at HF
    refine HF.out.mono ?_
    rintro e w1 ⟨hd, hst, ⟨he, rfl⟩ | ⟨rfl, hg, rfl⟩ | ⟨rfl, k, fb, hg, hfb, rfl⟩⟩
    · have HD := Lib.hid hd; have HST := Lib.hid hst; clear hd hst
      go_wp2
      go_ret2
      exact ⟨HST.out, HD.out, .inl ⟨he, rfl⟩⟩
    · have HD := Lib.hid hd; have HST := Lib.hid hst; have HG := Lib.hid hg; clear hd hst hg
      go_wp2
      go_ret2
      exact ⟨HST.out, HD.out, .inr (.inl ⟨rfl, HG.out, rfl⟩)⟩
    · obtain ⟨o1, o2⟩ := HNB.out.1 (by trivial)
      obtain ⟨n1, n2⟩ := HNB.out.2 (by first | exact (HE2.out rfl).2 | simpa using (HE2.out rfl).2)
      obtain ⟨ms, mk, mf, lv, h1, h2⟩ := hd.out
      obtain ⟨⟨sv, kv, flv, cs, g1, g2, _⟩, _⟩ := h2.each k fb hfb
      have c0 : w1.cell? ⟨fb, 0, none⟩ = some sv := cells_of g1 0
      have hL := HLEN.out k
      have hby : Bytes w1 sv (D1.cont k).seen := g2.bytes (by unfold maxLen; omega)
      generalize hS : (D1.cont k).seen = S at *
      obtain ⟨p, cap, rfl, _⟩ := hby.any
      have wr : IntKind.i64.wrap (off + n) = off + n := IntWalk.i64_in _ (by omega)
      by_cases hlt : (S.length : Int) < off + n
      · have HD := Lib.hid hd; have HST := Lib.hid hst; have HG := Lib.hid hg
        clear hd hst hg h1 h2 g1 g2 hfb
        go_wp2
        go_ret2
        exact ⟨HST.out, HD.out, .inr (.inr ⟨rfl, o1, n1, k, HG.out, .inl ⟨by rw [hS]; exact hlt, rfl⟩⟩)⟩
      · obtain ⟨i, rfl⟩ : ∃ i : Nat, off = i := ⟨off.toNat, by omega⟩
        obtain ⟨m, rfl⟩ : ∃ m : Nat, n = m := ⟨n.toNat, by omega⟩
        obtain ⟨q, c, hrun, hby2⟩ := cut_run hby i m (by omega)
        have hpl : ((S.drop i).take m).length = m := by simp; omega
        have HCL := Lib.hid (clone_any _ _ w1 hby2 (by rw [hpl]; omega))
        have HD := Lib.hid hd; have HST := Lib.hid hst; have HG := Lib.hid hg
        clear hd hst hg h1 h2 g1 g2 hfb hby hby2
        go_wp2_with fail
        refine HCL.out.mono ?_
        rintro e w2 ⟨v, rfl, hown, hkk, hb2⟩
        have hown2 : w2.ownsRow w.heap.size 5 1 v m (cellsOf ((S.drop i).take m)) := by
          rw [hpl] at hown
          refine ⟨hown.1, ?_⟩
          rcases hown.2 with h | ⟨g, c, cur, h1, _, h3⟩
          · exact .inl h
          · exact .inr ⟨g, c, cur, h1, Nat.le_trans HST.out.size (hkk g (by rw [h1]; rfl)), h3⟩
        have hd2 := HD.out.beside (o1 := fun _ => none) (o2 := fun _ => none) (Steps.of_below hb2) (fun _ _ _ => .inl rfl)
        have HO := Lib.hid hown2; have HD2 := Lib.hid hd2; have HST2 := Lib.hid (HST.out.trans (Steps.of_below hb2))
        clear hown hkk hb2 hown2 hd2 hrun
        go_wp2
        go_ret2
        exact ⟨HST2.out, HD2.out, .inr (.inr ⟨rfl, o1, n1, k, HG.out, .inr ⟨by rw [hS]; omega, v, rfl, by rw [hS]; exact HO.out⟩⟩)⟩
end Go.Proofs.Ytldkeelgnfegeaa

/- The disk: maps.Clone; a name is struck out. -/
namespace Go.Proofs.Ytldkeelgnfegeaa
open Go Go.RowKit Go.By

set_option maxRecDepth 100000 in
theorem redoRemove_any (s : ByteArray) (b : Nat) (m : List (ByteArray × Nat)) (w : World) (hm : Mp.Is w b strV natV m) :
    Calls Try.prog 43 #[.agg #[.string s], .map (some b)] w fun e w' => e = .returned (.tuple #[]) ∧ Mp.Is w' b strV natV (Mp.del m s) ∧ w.grownBy w' (some b) := by
  have hlt := hm.lt
  have hm1 : Mp.Is (w.alloc (.cells #[.string s] 96)) b strV natV m := hm.of_heap (Below.heap_alloc _ _ _ hlt)
  obtain ⟨es, clock, hh⟩ : ∃ es clock, (w.alloc (.cells #[.string s] 96)).heap[b]? = some (.map es clock) := let ⟨⟨es, clock, h, _⟩, _⟩ := hm1; ⟨es, clock, h⟩
  obtain ⟨o, hrun0, hm2⟩ := hm1.delete strK namesT s 0
  have hrun : ∀ ty, (Builtin.delete_ #[51, 9] ty #[.map (some b), .string s]).run Try.prog (w.alloc (.cells #[.string s] 96)) = .ok (.tuple #[]) { (w.alloc (.cells #[.string s] 96)) with heap := (w.alloc (.cells #[.string s] 96)).heap.setIfInBounds b o } := fun _ => hrun0
  have hg := set_grown (o' := o) hh
  generalize ({ (w.alloc (.cells #[.string s] 96)) with heap := (w.alloc (.cells #[.string s] 96)).heap.setIfInBounds b o } : World) = w2 at *
  have fin : Mp.Is w2 b strV natV (Mp.del m s) ∧ w.grownBy w2 (some b) := ⟨hm2, ⟨hg.os, hg.tape, hg.output, Nat.le_trans (by simp) hg.size, fun k hk hn => (hg.block k (by simp; omega) hn).trans (Below.heap_alloc _ _ _ hk)⟩⟩
  have FIN := Lib.hid fin
  clear hm hm1 hm2 hg fin hlt hrun0 hh
  go_enter Try.func43, Try.ntmps43
  go_wp2
  go_returns
  exact ⟨rfl, FIN.out⟩

theorem assertNames (T : TypeId) (v : Value) (w : World) : (Instr.typeAssert (.iface 51 v) T 51 false).run Try.prog w = .ok v w := by kernel_rfl

end Go.Proofs.Ytldkeelgnfegeaa

/- The disk: Remove. -/
namespace Go.Proofs.Ytldkeelgnfegeaa
open Go Go.RowKit Go.By

theorem row_slice {w : World} {B : Nat} {e : TypeId} {v : Value} {n : Nat} {xs : List Value} (h : w.ownsRow B e 1 v n xs) : ∃ p c, v = .slice p n c := by
  rcases h.2 with ⟨h, h2⟩ | ⟨g, c, _, h, _⟩
  · exact ⟨none, 0, by rw [h, h2]⟩
  · exact ⟨_, c, h⟩

set_option maxRecDepth 100000 in
theorem alterRemove_any (own : Own) (a bs bf : Nat) (D : DiskA) (s : ByteArray) (w : World) (h : Tabled w own a bs bf D) (hl : D.laid.length < 1000000) :
    Calls Try.prog 32 #[.pointer (some ⟨a, 0, none⟩), nameV (.remove s)] w fun e w' => e = .returned (.tuple #[]) ∧ ∃ own', Tabled w' own' a bs bf { D with seen := Mp.del D.seen s, laid := D.laid ++ [.remove s] } ∧ Steps own own' w w' := by
  obtain ⟨hd, mk, lv, h1, h2, h3⟩ := h
  have g4 : w.cell? ⟨a, 4, none⟩ = some (.map (some bs)) := cells_of h1 4
  have hrs : own bs = some .seen ∧ Mp.Is w bs strV natV D.seen := by
    rcases h2.seen with ⟨h, _⟩ | ⟨b, h, hb, hm⟩
    · cases h
    · cases h; exact ⟨hb, hm⟩
  have hlt : a < w.heap.size := hd.here a _ hd.role
  have hne : bs ≠ a := by
    rintro rfl
    rw [hd.role] at hrs; cases hrs.1
  have HD := Lib.hid hd; have H1 := Lib.hid h1; have H2 := Lib.hid h2; have HR := Lib.hid hrs
  clear hd h1 h2 hrs
  obtain ⟨i0, hi, hz0, hz1, hz2⟩ := info_parts nameOpInfo
  have HI := Lib.hid hi; have Z0 := Lib.hid hz0; have Z1 := Lib.hid hz1; have Z2 := Lib.hid hz2
  clear hi hz0 hz1 hz2
  unfold nameV
  go_enter Try.func32, Try.ntmps32
  go_wp2_with fail
  refine (redoRemove_any s bs D.seen w HR.out.2).mono ?_
  rintro e w1 ⟨rfl, hm1, hg1⟩
  have q6 : w1.cell? ⟨a, 6, none⟩ = some lv := by
    rw [World.cell?_of_block (hg1.block a hlt (by simpa using fun h => hne h.symm))]; exact cells_of H1.out 6
  have HM1 := Lib.hid hm1; have HG1 := Lib.hid hg1
  have hlb : ∀ k, lv.ownBlock = some k → k < w.heap.size ∧ k ≠ bs ∧ k ≠ a := fun k hk => ⟨HD.out.here k _ (H2.out.laidR k hk), (by
    rintro rfl; have := H2.out.laidR k hk; rw [HR.out.1] at this; cases this), (by
    rintro rfl; have := H2.out.laidR k hk; rw [HD.out.role] at this; cases this)⟩
  have ho1 := ownsRow_of_heap H2.out.laid (w' := w1) fun k hk => hg1.block k (hlb k hk).1 (by simpa using (hlb k hk).2.1)
  have HO1 := Lib.hid ho1
  have HLB := Lib.hid hlb
  clear hm1 hg1 g4 ho1 hlb
  go_wp2_with (at_builtin; refine wpList_append_own_at _ rfl (.tmp 14) (.tmp 16) 52 rfl 0 104 i0 .nilFunc 1 8 nameOps HI.out Z0.out Z1.out Z2.out rfl (by decide) lv D.laid.length (D.laid.map nameV) rfl (HO1.out.alloc _) ⟨w1.heap.size, 0, none⟩ 1 1 [nameV (.remove s)] rfl rfl ?c1 ?c2 ?c3 ?c4 ?c5 ?c6)
  case c1 =>
    intro j u hu
    match j with
    | 0 => simp at hu; subst hu; exact World.cell?_alloc_new w1 _ _ 0
    | j + 1 => simp at hu
  case c2 => intro u hu; simp at hu; subst hu; rfl
  case c3 => unfold maxLen; omega
  case c4 => omega
  case c5 => omega
  intro v2 w2 hown hgrow _ hat
  obtain ⟨p2, c2, rfl⟩ : ∃ p c, v2 = .slice p (D.laid.length + 1) c := by
    rcases hown.2 with ⟨_, h⟩ | ⟨g, c, _, h, _⟩
    · omega
    · exact ⟨_, c, h⟩
  have z1 := HG1.out.size
  have q6' : w2.cell? ⟨a, 6, none⟩ = some lv := by
    rw [World.cell?_of_block (hgrow.block a (by simp; omega) (fun e => (HLB.out a e.symm).2.2 rfl)), World.cell?_alloc_lt _ _ _ (by simp; omega)]; exact q6
  have f6' : w2.frozen? ⟨a, 6, none⟩ = false := by
    rw [World.frozen?_of_block (hgrow.block a (by simp; omega) (fun e => (HLB.out a e.symm).2.2 rfl)), World.frozen?_alloc_old _ _ _ (by simp; omega), World.frozen?_of_block (HG1.out.block a hlt (by simpa using fun h => hne h.symm))]
    exact free_of H1.out 6
  have fin := laid_done HD.out H1.out H2.out h3 HR.out.1 HM1.out HG1.out hown hgrow (by simpa using hat)
  have FIN := Lib.hid fin
  clear fin hown hgrow hat q6
  go_wp2
  go_returns
  exact ⟨rfl, FIN.out⟩

/-- The file's bytes are not seen any more. -/
theorem DiskIs.emptied {own : Own} {a n fb : Nat} {D : DiskA} {w : World} (h : DiskIs w own a D) (hfb : Mp.get D.fm n = some fb) (u : Int) {W : World} (hh : W.heap = ((w.setCell ⟨a, 1, none⟩ (.int .i64 u)).setCell ⟨fb, 0, none⟩ (.slice none 0 0)).heap) (ho : W.os = w.os) (ht : W.tape = w.tape) (hp : W.output = w.output) :
    ∃ D', DiskIs W own a D' ∧ D'.seen = D.seen ∧ D'.laid = D.laid ∧ D'.kept = D.kept ∧ D'.fm = D.fm ∧ Steps own own w W := by
  obtain ⟨hd1, st1⟩ := h.set (D' := { D with used := u }) 1 (.int .i64 u) (fun ms mk mf lv _ hpp => ⟨ms, mk, mf, lv, rfl, parts_numbers hpp rfl rfl rfl rfl rfl⟩)
  generalize hw1 : w.setCell ⟨a, 1, none⟩ (.int .i64 u) = w1 at *
  obtain ⟨ms, mk, mf, lv, h1, h2⟩ := hd1.out
  obtain ⟨⟨sv, kv, lv', cs, f1, f2, f3, f4, f5, f6⟩, hr, hbf⟩ := h2.each n fb hfb
  have s0 := set_heap f1 0 (.slice none 0 0)
  have hfl : fb < w1.heap.size := hd1.here fb _ hr
  have hz : (w1.setCell ⟨fb, 0, none⟩ (.slice none 0 0)).heap.size = w1.heap.size := by simp
  have stay : Stay own own (fun r => r ≠ .file n) w1 (w1.setCell ⟨fb, 0, none⟩ (.slice none 0 0)) := ⟨fun _ _ h => h, fun k r hkr hne => s0.2 k (by rintro rfl; rw [hr] at hkr; cases hkr; exact hne rfl)⟩
  have hfile : FileIs (w1.setCell ⟨fb, 0, none⟩ (.slice none 0 0)) own n fb { D.cont n with seen := [] } :=
    ⟨⟨.slice none 0 0, kv, lv', cs, s0.1, RowV.nil _ _ _, f3.stay stay (by simp), ownsRow_of_heap f4 fun k hkr => stay.block k _ (f5 k hkr) (by simp), f5, f6.stay stay (by simp)⟩, hr,
      fun l hl h0 => (third_cell s0.1 (x := lv') (by simp) hl).trans (hbf lv' (by rw [cell_of_row w1 fb 2 _ _ _ f1]; rfl) h0)⟩
  have hst : FileStep n none own own w1 (w1.setCell ⟨fb, 0, none⟩ (.slice none 0 0)) := by
    refine ⟨⟨rfl, rfl, rfl, by rw [hz]; exact Nat.le_refl _, fun k hkl hn => ?_⟩, fun _ _ => rfl, fun _ _ h => h, fun k r hkr => .inl hkr⟩
    exact s0.2 k (by rintro rfl; exact hn (.inl ⟨_, hr, .inl rfl⟩))
  have hd2 := hd1.filed (F := { D.cont n with seen := [] }) hfb hfile hst (by simp)
  have st2 := st1.trans hst.steps
  have hW : Below (w1.setCell ⟨fb, 0, none⟩ (.slice none 0 0)).heap.size (w1.setCell ⟨fb, 0, none⟩ (.slice none 0 0)) W := ⟨ho.trans st2.os.symm, ht.trans st2.tape.symm, hp.trans st2.output.symm, by rw [hh]; exact Nat.le_refl _, fun k _ => by rw [hh]⟩
  exact ⟨_, hd2.beside (o1 := fun _ => none) (o2 := fun _ => none) (Steps.of_below hW) (fun _ _ _ => .inl rfl), rfl, rfl, rfl, rfl, st2.trans (Steps.of_below hW)⟩

set_option maxRecDepth 100000 in
theorem empty_any (own : Own) (a n fb : Nat) (D : DiskA) (s : ByteArray) (w : World) (h : DiskIs w own a D) (hg : Mp.get D.seen s = some n) (hfb : Mp.get D.fm n = some fb) (hu : -4611686018427387904 ≤ D.used ∧ D.used ≤ 4611686018427387904) (hsl : (D.cont n).seen.length ≤ 1099511627776) :
    Calls Try.prog 42 #[.pointer (some ⟨a, 0, none⟩), .string s] w fun e w' => e = .returned (.tuple #[]) ∧ ∃ D', DiskIs w' own a D' ∧ D'.seen = D.seen ∧ D'.laid = D.laid ∧ D'.kept = D.kept ∧ D'.fm = D.fm ∧ Steps own own w w' := by
  have HFIN := Lib.hid (fun (W : World) => h.emptied hfb (D.used - ((D.cont n).seen.length : Int)) (W := W))
  have hafb : a ≠ fb := by
    rintro rfl
    obtain ⟨ms, mk, mf, lv, _, h2⟩ := h.out
    have := (h2.each n a hfb).role
    rw [h.role] at this; cases this
  obtain ⟨ms, mk, mf, lv, h1, h2⟩ := h.out
  have hfile := h2.each n fb hfb
  obtain ⟨⟨sv, kv, lv', cs, f1, f2, f3, f4, f5, f6⟩, hr, hbf⟩ := hfile
  obtain ⟨p, c, rfl⟩ := row_slice f2.owns
  have l1 := (h2.seen.look strK namesT (zeroInt w) s).1
  have l2 := (h2.files.look natK filesT (zeroFile w) n).2
  rw [hg] at l1
  rw [hfb] at l2
  unfold strV at l1
  simp only [Option.map_some, Option.getD_some, Option.isSome_some, natV, ptrV] at l1 l2
  have g1 := cells_of h1 1
  have g4 := cells_of h1 4
  have g8 := cells_of h1 8
  have q0 := cells_of f1 0
  unfold diskCells at g1 g4 g8
  simp only [List.getElem?_toArray, List.getElem?_cons_zero, List.getElem?_cons_succ] at g1 g4 g8 q0
  have fz := free_of h1
  have fz2 := free_of f1
  have hw : IntKind.i64.wrap (D.used - ((D.cont n).seen.length : Int)) = D.used - ((D.cont n).seen.length : Int) := IntWalk.i64_in _ (by omega)
  have H := Lib.hid h; have H1 := Lib.hid h1; have H2 := Lib.hid h2; have F1 := Lib.hid f1
  clear h h1 h2 f1 f2 f3 f4 f5 f6 hbf hr hg hfb
  go_enter Try.func42, Try.ntmps42
  go_wp2
  go_region
  go_wp2
  go_returns
  exact ⟨rfl, HFIN.out _ rfl rfl rfl rfl⟩

set_option maxRecDepth 100000 in
theorem remove_any (own : Own) (a : Nat) (D : DiskA) (s : ByteArray) (w : World) (h : DiskIs w own a D) (hk : D.Ok) (ho : D.ops < 4611686018427387904) (hl : D.left < 4611686018427387904) (hs : s.size ≤ maxLen)
    (hu : -4611686018427387904 ≤ D.used ∧ D.used ≤ 4611686018427387904) (hsl : ∀ n, (D.cont n).seen.length ≤ 1099511627776) (hll : D.laid.length < 1000000) :
    Calls Try.prog 20 #[.pointer (some ⟨a, 0, none⟩), .string s] w fun e w' => (∃ x, e = .returned (.int .i64 x)) ∧ ∃ own', Steps own own' w w' := by
  have hfind := find_any own a D s true w h hk ho hl hs
  rw [Bool.true_and] at hfind
  obtain ⟨D1, hD1⟩ : ∃ D1, D1 = (D.begin (mayName s)).1 := ⟨_, rfl⟩
  obtain ⟨err, herr⟩ : ∃ err, err = (D.begin (mayName s)).2 := ⟨_, rfl⟩
  have hsame := D.begin_same (mayName s)
  rw [← hD1] at hsame
  obtain ⟨_, _, e3, _, e5, _, e7, _⟩ := hsame
  rw [← hD1, ← herr] at hfind
  rw [← e7] at hu
  rw [← e5] at hsl
  rw [← e3] at hll
  have HF := Lib.hid hfind; have HU := Lib.hid hu; have HSL := Lib.hid hsl; have HLL := Lib.hid hll
  clear hfind h hk ho hl hD1 herr hu hsl hll e3 e5 e7
  go_enter Try.func20, Try.ntmps20
  go_wp2_with fail
  refine HF.out.mono ?_
  rintro e w1 ⟨hd, hst, ⟨he, rfl⟩ | ⟨rfl, hg, rfl⟩ | ⟨rfl, n, fb, hg, hfb, rfl⟩⟩
  · have HST := Lib.hid hst; clear hd hst
    go_wp2
    go_ret
    exact ⟨⟨_, rfl⟩, own, HST.out⟩
  · have HST := Lib.hid hst; clear hd hst hg
    go_wp2
    go_ret
    exact ⟨⟨_, rfl⟩, own, HST.out⟩
  · have HE := Lib.hid (empty_any own a n fb D1 s w1 hd hg hfb HU.out (HSL.out n))
    have HST := Lib.hid hst; have HG := Lib.hid hg
    clear hd hst hg hfb
    go_wp2_with fail
    refine HE.out.mono ?_
    rintro e w2 ⟨rfl, D2, hd2, e1, e2, _, _, hs2⟩
    obtain ⟨ms, mk, mf, lv, h1, h2⟩ := hd2.out
    have hne : mk ≠ .map none := fun e => by
      have := (h2.bare e).1
      rw [e1] at this
      have hg := HG.out
      rw [this] at hg; cases hg
    have hf := h2.full hne
    obtain ⟨bs, rfl⟩ : ∃ bs, ms = .map (some bs) := by
      rcases h2.seen with ⟨e, _⟩ | ⟨b, e, _⟩
      · exact absurd e hf.1
      · exact ⟨b, e⟩
    obtain ⟨bf, rfl⟩ : ∃ bf, mf = .map (some bf) := by
      rcases h2.files with ⟨e, _⟩ | ⟨b, e, _⟩
      · exact absurd e hf.2
      · exact ⟨b, e⟩
    have HA := Lib.hid (alterRemove_any own a bs bf D2 s w2 ⟨hd2, mk, lv, h1, h2, hne⟩ (by rw [e2]; exact HLL.out))
    have ST2 := Lib.hid (HST.out.trans hs2)
    clear hd2 h1 h2 hne hf hs2
    unfold nameV at HA
    go_wp2_with fail
    refine HA.out.mono ?_
    rintro e w3 ⟨rfl, own3, _, hs3⟩
    have ST3 := Lib.hid (ST2.out.trans hs3)
    clear hs3
    go_wp2
    go_ret
    exact ⟨⟨_, rfl⟩, own3, ST3.out⟩
end Go.Proofs.Ytldkeelgnfegeaa

/- What is left of bytes behind a crash: where nothing was laid again, the byte is the one that lasted; never fewer. Lists only. -/
namespace Go.Proofs.Ytldkeelgnfegeaa
open Go Go.By

theorem atB_getD (l : List Nat) (i : Nat) : atB l i = (l[i]?).getD 0 := by
  unfold atB; rw [List.getD_eq_getElem?_getD]
theorem atB_fit {l : List Nat} {n : Nat} (h : l.length ≤ n) (i : Nat) : atB (fitL l n) i = atB l i := by
  rw [fitL_more h, atB_getD, atB_getD, List.getElem?_append]
  split
  · rfl
  · rename_i hi
    rw [List.getElem?_replicate, List.getElem?_eq_none (by omega)]
    split <;> rfl
theorem atB_over {l p : List Nat} {off : Nat} (h : off + p.length ≤ l.length) (i : Nat) : atB (overL l off p) i = if off ≤ i ∧ i < off + p.length then atB p (i - off) else atB l i := by
  unfold overL
  rw [atB_getD, atB_getD, atB_getD, List.getElem?_append]
  have ht : (l.take off).length = off := by simp; omega
  rw [ht]
  by_cases h1 : i < off
  · rw [if_pos h1, if_neg (by omega), List.getElem?_take, if_pos h1]
  · rw [if_neg h1, List.getElem?_append]
    by_cases h2 : i - off < p.length
    · rw [if_pos h2, if_pos (by omega)]
    · rw [if_neg h2, if_neg (by omega), List.getElem?_drop]
      congr 2; omega
theorem atB_put {l p : List Nat} {off : Nat} (i : Nat) : atB (putL l off p) i = if off ≤ i ∧ i < off + p.length then atB p (i - off) else atB l i := by
  unfold putL
  by_cases h : l.length < off + p.length
  · rw [if_pos h, atB_over (by rw [fitL_length]; exact Nat.le_refl _), atB_fit (by omega)]
  · rw [if_neg h, atB_over (by omega)]

theorem piece_length {off : Nat} {b : List Nat} {at_ : Nat} (h : at_ < b.length) : ((b.drop at_).take (pieceLen off b.length at_)).length = pieceLen off b.length at_ := by
  rw [List.length_take, List.length_drop]
  have := pieceLen_le off b.length at_
  omega

/-- Whatever survives of a write: outside of it the bytes are as they were, and no fewer. -/
theorem redoWrite_out {off : Nat} {b : List Nat} {bit : Nat → Bool} : ∀ (fuel at_ i : Nat) (l : List Nat),
    (∀ k, (k < off ∨ off + b.length ≤ k) → atB (redoWrite off b bit fuel at_ i l).1 k = atB l k) ∧ l.length ≤ (redoWrite off b bit fuel at_ i l).1.length ∧ (redoWrite off b bit fuel at_ i l).1.length ≤ max l.length (off + b.length)
  | 0, at_, i, l => ⟨fun _ _ => rfl, Nat.le_refl _, Nat.le_max_left _ _⟩
  | fuel + 1, at_, i, l => by
    unfold redoWrite
    by_cases h : at_ < b.length
    · rw [if_pos h]
      have hp := piece_length (off := off) h
      have hle := pieceLen_le off b.length at_
      obtain ⟨h1, h2, h3⟩ := redoWrite_out (off := off) (b := b) (bit := bit) fuel (at_ + pieceLen off b.length at_) (i + 1) (if bit i then putL l (off + at_) ((b.drop at_).take (pieceLen off b.length at_)) else l)
      by_cases hb : bit i = true
      · simp only [hb, if_true] at h1 h2 h3 ⊢
        rw [putL_length, hp] at h2 h3
        refine ⟨fun k hk => ?_, by omega, by omega⟩
        rw [h1 k hk, atB_put, hp, if_neg (by omega)]
      · simp only [hb] at h1 h2 h3 ⊢
        exact ⟨h1, h2, h3⟩
    · rw [if_neg h]
      exact ⟨fun _ _ => rfl, Nat.le_refl _, Nat.le_max_left _ _⟩

/-- A write of which all survives. -/
theorem redoWrite_all {off : Nat} {b : List Nat} : ∀ (fuel at_ i : Nat) (l : List Nat), b.length ≤ at_ + fuel → at_ < b.length →
    (∀ k, atB (redoWrite off b allBits fuel at_ i l).1 k = if off + at_ ≤ k ∧ k < off + b.length then atB b (k - off) else atB l k) ∧ (redoWrite off b allBits fuel at_ i l).1.length = max l.length (off + b.length)
  | 0, at_, i, l, hf, ha => by omega
  | fuel + 1, at_, i, l, hf, ha => by
    unfold redoWrite
    rw [if_pos ha]
    have hp := piece_length (off := off) ha
    have hle := pieceLen_le off b.length at_
    have hpos := pieceLen_pos (off := off) ha
    have hb : allBits i = true := rfl
    simp only [hb, if_true]
    have hput : ∀ k, atB (putL l (off + at_) ((b.drop at_).take (pieceLen off b.length at_))) k = if off + at_ ≤ k ∧ k < off + at_ + pieceLen off b.length at_ then atB b (k - off) else atB l k := fun k => by
      rw [atB_put, hp]
      split
      · rename_i hk
        rw [atB_take (by omega), atB_getD, atB_getD, List.getElem?_drop]
        congr 2; omega
      · rfl
    by_cases hn : at_ + pieceLen off b.length at_ < b.length
    · obtain ⟨h1, h2⟩ := redoWrite_all (off := off) (b := b) fuel (at_ + pieceLen off b.length at_) (i + 1) (putL l (off + at_) ((b.drop at_).take (pieceLen off b.length at_))) (by omega) hn
      refine ⟨fun k => ?_, by rw [h2, putL_length, hp]; omega⟩
      rw [h1 k, hput k]
      by_cases hk : off + (at_ + pieceLen off b.length at_) ≤ k ∧ k < off + b.length
      · rw [if_pos hk, if_pos (by omega)]
      · rw [if_neg hk]
        by_cases hk2 : off + at_ ≤ k ∧ k < off + at_ + pieceLen off b.length at_
        · rw [if_pos hk2, if_pos (by omega)]
        · rw [if_neg hk2, if_neg (by omega)]
    · have he : at_ + pieceLen off b.length at_ = b.length := by omega
      have hstop : redoWrite off b allBits fuel (at_ + pieceLen off b.length at_) (i + 1) (putL l (off + at_) ((b.drop at_).take (pieceLen off b.length at_))) = (putL l (off + at_) ((b.drop at_).take (pieceLen off b.length at_)), i + 1) := by
        cases fuel with
        | zero => rfl
        | succ f => unfold redoWrite; rw [if_neg hn]
      rw [hstop]
      refine ⟨fun k => ?_, by show (putL _ _ _).length = _; rw [putL_length, hp]; omega⟩
      show atB (putL _ _ _) k = _
      rw [hput k]
      by_cases hk2 : off + at_ ≤ k ∧ k < off + b.length
      · rw [if_pos (by omega), if_pos hk2]
      · rw [if_neg (by omega), if_neg hk2]

/-- The writes: places and bytes. -/
def writeOps (l : List (Nat × List Nat)) : List ByteOp := l.map fun p => .write p.1 p.2
/-- A place that some write covers. -/
def coveredBy (l : List (Nat × List Nat)) (k : Nat) : Prop := ∃ p ∈ l, p.1 ≤ k ∧ k < p.1 + p.2.length
theorem redoOps_out {bit : Nat → Bool} {m : Nat} : ∀ (ws : List (Nat × List Nat)) (i : Nat) (l : List Nat), (∀ p ∈ ws, p.1 + p.2.length ≤ m) →
    (∀ k, ¬ coveredBy ws k → atB (redoOps bit (writeOps ws) i l).1 k = atB l k) ∧ l.length ≤ (redoOps bit (writeOps ws) i l).1.length ∧ (redoOps bit (writeOps ws) i l).1.length ≤ max l.length m
  | [], i, l, _ => ⟨fun _ _ => rfl, Nat.le_refl _, Nat.le_max_left _ _⟩
  | p :: ws, i, l, hm => by
    have hw : redoOps bit (writeOps (p :: ws)) i l = redoOps bit (writeOps ws) (redoWrite p.1 p.2 bit p.2.length 0 i l).2 (redoWrite p.1 p.2 bit p.2.length 0 i l).1 := rfl
    rw [hw]
    obtain ⟨a1, a2, a3⟩ := redoWrite_out (off := p.1) (b := p.2) (bit := bit) p.2.length 0 i l
    obtain ⟨b1, b2, b3⟩ := redoOps_out (bit := bit) ws (redoWrite p.1 p.2 bit p.2.length 0 i l).2 (redoWrite p.1 p.2 bit p.2.length 0 i l).1 (fun q hq => hm q (List.mem_cons_of_mem _ hq))
    have hp := hm p (List.mem_cons_self ..)
    refine ⟨fun k hk => ?_, by omega, by omega⟩
    rw [b1 k (fun ⟨q, hq, h⟩ => hk ⟨q, List.mem_cons_of_mem _ hq, h⟩), a1 k]
    by_cases h1 : k < p.1
    · exact .inl h1
    · by_cases h2 : p.1 + p.2.length ≤ k
      · exact .inr h2
      · exact absurd ⟨p, List.mem_cons_self .., by omega, by omega⟩ hk

theorem redoOps_append (bit : Nat → Bool) : ∀ (a b : List ByteOp) (i : Nat) (l : List Nat), redoOps bit (a ++ b) i l = redoOps bit b (redoOps bit a i l).2 (redoOps bit a i l).1
  | [], _, _, _ => rfl
  | o :: a, b, i, l => redoOps_append bit a b _ _
end Go.Proofs.Ytldkeelgnfegeaa

/- Arguments that are rows of rows of bytes, opened. -/
namespace Go.By
open Go Go.RowKit Go.ChangeShapes Go.WideShapes Go.ChangeAt Go.Deep

theorem bytes_of_trod {H : Type} {enc : TypeId × Value → H} {P : Program} {W : World} {base : Nat} {t e : TypeId} (T : ByT P t e) (hc : P.cellsOf e = 1) {fuel : Nat} {v : Value} {x : DataW H × List MemPlace}
    (hf : DataW.trod enc P W base (fun _ => true) true fuel t [v] = some x) : ∃ l : List Nat, Bytes W v l := by
  rcases open_ints T.slice T.elem hc hf with ⟨hcs, hx⟩ | ⟨a, len, cap, zs, hcs, _, hl, hm, hz, hx, hcell, hwz⟩
  · simp only [List.cons.injEq, and_true] at hcs
    subst hcs
    exact ⟨[], Bytes.nil W⟩
  · simp only [List.cons.injEq, and_true] at hcs
    subst hcs
    simp only [if_true] at hz
    have hlen : ((zs.take len).map Int.toNat).length = len := by simp; omega
    refine ⟨(zs.take len).map Int.toNat, ⟨?_, ?_, ?_⟩⟩
    · by_cases h0 : zs.length = 0
      · have h1 : cap = 0 := by omega
        have h2 : len = 0 := by omega
        subst h1 h2
        exact .inr (.inl ⟨a, rfl, by simp⟩)
      · obtain ⟨ab, ao, spot⟩ := a
        have hspot : spot = none := by simpa [Addr.add] using World.cell?_spot (hcell 0 (by omega))
        subst hspot
        refine .inr <| .inr ⟨ab, ao, cap, by rw [hlen], by rw [hlen]; exact hl, fun i hi => ?_⟩
        rw [hlen] at hi
        have hci := hcell i (by omega)
        rw [Addr.add_lit] at hci
        rw [hci]
        have hm := hwz (zs.getD i 0) (by rw [List.getD_eq_getElem?_getD, List.getElem?_eq_getElem (by omega)]; exact List.getElem_mem _)
        obtain ⟨n, hn, _⟩ := u8_of_wf hm
        rw [atB_of (by rw [hlen]; exact hi)]
        rw [List.getElem_map, List.getElem_take]
        have e : zs.getD i 0 = zs[i]'(by omega) := by rw [List.getD_eq_getElem?_getD, List.getElem?_eq_getElem (by omega)]; rfl
        rw [e] at hn ⊢
        rw [hn]; rfl
    · intro c hc
      obtain ⟨z, hz', rfl⟩ := List.mem_map.1 hc
      obtain ⟨n, hn, hlt⟩ := u8_of_wf (hwz z (List.mem_of_mem_take hz'))
      omega
    · rw [hlen]; omega

/-- The rows of an argument. -/
structure BodyRow (w : World) (p : Option Addr) (n cap : Nat) (T : Nat → Value × List Nat) : Prop where
  le : n ≤ cap
  most : cap ≤ maxLen
  at_ : ∀ i, i < n → ∃ lb lo, p = some ⟨lb, lo, none⟩ ∧ w.cell? ⟨lb, lo + i, none⟩ = some (T i).1
  wf : ∀ i, i < n → Bytes w (T i).1 (T i).2
theorem BodyRow.below {w w' : World} {p : Option Addr} {n cap : Nat} {T : Nat → Value × List Nat} (h : BodyRow w p n cap T) (hb : Below w.heap.size w w') : BodyRow w' p n cap T := by
  refine ⟨h.le, h.most, fun i hi => ?_, fun i hi => (h.wf i hi).below hb⟩
  obtain ⟨lb, lo, h1, c0⟩ := h.at_ i hi
  exact ⟨lb, lo, h1, (hb.cell (p := ⟨lb, _, none⟩) (block_lt_of_cell c0)).trans c0⟩

theorem open_rows {H : Type} {enc : TypeId × Value → H} {P : Program} {W : World} {base b0 : Nat} {t e te : TypeId} (ht : P.underlying t = some (.slice e)) (ce : P.cellsOf e = 1) (T : ByT P e te) (cte : P.cellsOf te = 1) {v : Value} {d : DataW H} {ps : List MemPlace}
    (hval : Value.okWide P W .any b0 t v) (h : DataW.Trod enc P W base (fun _ => true) true t v d ps) :
    ∃ (p : Option Addr) (n cap : Nat) (T : Nat → Value × List Nat), v = .slice p n cap ∧ BodyRow W p n cap T := by
  obtain ⟨p, len, cap, rfl⟩ := okWide_slice ht hval
  obtain ⟨fuel, hf⟩ := h
  have hcs0 : (Value.slice p len cap).cells.toList = [.slice p len cap] := by simp [Value.cells]
  rw [hcs0] at hf
  rcases open_slice1 ht ce hf with ⟨h0, _⟩ | ⟨a, len', cap', m, n, V, D, Pl, h1, _, hl, hm, hmm, _, hx⟩
  · simp only [List.cons.injEq, Value.slice.injEq, and_true] at h0
    obtain ⟨rfl, rfl, rfl⟩ := h0
    exact ⟨none, 0, 0, fun _ => (.slice none 0 0, []), rfl, Nat.le_refl _, Nat.zero_le _, fun i hi => by omega, fun i hi => by omega⟩
  · simp only [List.cons.injEq, Value.slice.injEq, and_true] at h1
    obtain ⟨rfl, rfl, rfl⟩ := h1
    simp only [if_true] at hmm
    have each : ∀ i, i < len → ∃ l : List Nat, Bytes W (V i) l := fun i hi => bytes_of_trod T cte (hx i (by omega)).2
    refine ⟨some a, len, cap, fun i => (V i, if h : i < len then (each i h).choose else []), rfl, hl, hm, fun i hi => ?_, fun i hi => ?_⟩
    · obtain ⟨ab, ao, spot⟩ := a
      have h00 := (hx 0 (by omega)).1
      have hspot : spot = none := by
        have hs := World.cell?_spot h00
        simpa [Addr.add] using hs
      subst hspot
      refine ⟨ab, ao, rfl, ?_⟩
      have hh := (hx i (by omega)).1
      simp only [Addr.add_lit] at hh
      exact hh
    · simp only [dif_pos hi]
      exact (each i hi).choose_spec
theorem BodyRow.body {w : World} {lb lo n cap i : Nat} {T : Nat → Value × List Nat} (h : BodyRow w (some ⟨lb, lo, none⟩) n cap T) (hi : i < n) :
    ∃ q c, w.cell? ⟨lb, lo + i, none⟩ = some (.slice q (T i).2.length c) ∧ Bytes w (.slice q (T i).2.length c) (T i).2 := by
  obtain ⟨lb', lo', h1, h2⟩ := h.at_ i hi
  simp only [Option.some.injEq, Addr.mk.injEq, true_and, and_true] at h1
  obtain ⟨rfl, rfl⟩ := h1
  have hw := h.wf i hi
  obtain ⟨q, c, hv, _⟩ := hw.any
  rw [hv] at h2 hw
  exact ⟨q, c, h2, hw⟩
end Go.By

/- The disk as a file sees it: what each operation makes of it, as functions; the numbers of its tables are left out. -/
namespace Go.Proofs.Ytldkeelgnfegeaa
open Go Go.RowKit Go.By

structure Sk where
  room : Int
  used : Int
  ops : Nat
  left : Nat
  made : Nat
  seen : List (ByteArray × Nat)
  kept : List (ByteArray × Nat)
  laid : List NameOp
  cont : Nat → FileA
def DiskA.sk (D : DiskA) : Sk := ⟨D.room, D.used, D.ops, D.left, D.made, D.seen, D.kept, D.laid, D.cont⟩
def Sk.tick (S : Sk) : Sk := { S with ops := S.ops + 1, left := S.left - 1 }
def Sk.err (S : Sk) (may : Bool) : Int := if S.left = 1 then 5 else if may then 0 else 1
theorem sk_begin (D : DiskA) (m : Bool) : (D.begin m).1.sk = D.sk.tick ∧ (D.begin m).2 = D.sk.err m := by
  unfold DiskA.begin Sk.err
  by_cases h : D.left = 1
  · rw [if_pos h, if_pos (show D.sk.left = 1 from h)]
    refine ⟨?_, rfl⟩
    show (⟨D.room, D.used, D.ops + 1, 0, D.made, D.seen, D.kept, D.laid, D.cont⟩ : Sk) = ⟨D.room, D.used, D.ops + 1, D.left - 1, D.made, D.seen, D.kept, D.laid, D.cont⟩
    rw [h]
  · rw [if_neg h, if_neg (show ¬ D.sk.left = 1 from h)]
    exact ⟨rfl, rfl⟩
def Sk.hasRoom (S : Sk) (n : Nat) (size : Int) : Bool := decide (size - ((S.cont n).seen.length : Int) ≤ 0) || decide (size - ((S.cont n).seen.length : Int) ≤ S.room - S.used)
def Sk.withFile (S : Sk) (n : Nat) (F : FileA) : Sk := { S with cont := fun k => if k = n then F else S.cont k }
def Sk.alterFile (S : Sk) (n : Nat) (o : ByteOp) : Sk := { S.withFile n ((S.cont n).alter o) with used := S.used + (S.cont n).more o }
/-- An operation on a file that has to be there. -/
def Sk.onFile (S : Sk) (s : ByteArray) (may : Bool) (f : Sk → Nat → Sk × Int) : Sk × Int :=
  if S.err (may && mayName s) ≠ 0 then (S.tick, S.err (may && mayName s)) else
    match Mp.get S.seen s with
    | none => (S.tick, 3)
    | some n => f S.tick n
def Sk.writeAt (off : Int) (b : List Nat) (T : Sk) (n : Nat) : Sk × Int :=
  if b = [] then (T, 0) else if T.hasRoom n (off + b.length) then (T.alterFile n (.write off.toNat b), 0) else (T, 4)
def Sk.cutAt (size : Int) (T : Sk) (n : Nat) : Sk × Int := if T.hasRoom n size then (T.alterFile n (.cut size.toNat), 0) else (T, 4)
def Sk.write (S : Sk) (s : ByteArray) (off : Int) (b : List Nat) : Sk × Int := S.onFile s (mayNumber off) (Sk.writeAt off b)
def Sk.truncate (S : Sk) (s : ByteArray) (size : Int) : Sk × Int := S.onFile s (mayNumber size) (Sk.cutAt size)
def Sk.sync (S : Sk) (s : ByteArray) : Sk × Int := S.onFile s true fun T n => (T.withFile n (T.cont n).settle, 0)
def Sk.create (S : Sk) (s : ByteArray) : Sk × Int :=
  if S.err (mayName s) ≠ 0 then (S.tick, S.err (mayName s)) else if (Mp.get S.seen s).isSome then (S.tick, 8) else
    ({ S.tick.withFile (S.made + 1) ⟨[], [], []⟩ with made := S.made + 1, seen := Mp.put S.seen s (S.made + 1), laid := S.laid ++ [.create s (S.made + 1)] }, 0)
def Sk.size (S : Sk) (s : ByteArray) : Option Nat := (Mp.get S.seen s).map fun n => (S.cont n).seen.length
def Sk.read (S : Sk) (s : ByteArray) (off n : Int) : List Nat × Int :=
  if S.err ((mayNumber off && mayNumber n) && mayName s) ≠ 0 then ([], S.err ((mayNumber off && mayNumber n) && mayName s)) else
    match Mp.get S.seen s with
    | none => ([], 3)
    | some k => if ((S.cont k).seen.length : Int) < off + n then ([], 2) else (((S.cont k).seen.drop off.toNat).take n.toNat, 0)

/-- Nothing is too great. -/
structure Sk.Fine (S : Sk) : Prop where
  ops : S.ops < 4611686018427387904
  left : S.left < 4611686018427387904
  made : S.made < 1000000
  laid : S.laid.length < 1000000
  few : ∀ n, (S.cont n).laid.length < 1000000
  short : ∀ n, (S.cont n).seen.length ≤ 1099511627776
  room : 0 ≤ S.room ∧ S.room ≤ 9223372036854775807
  used : 0 ≤ S.used ∧ S.used ≤ 4611686018427387904

/-- The disk S lies at a, behind all that was there in W. -/
structure Dsk (W : World) (a : Nat) (S : Sk) (own : Own) (w : World) : Prop where
  out : ∃ D, DiskIs w own a D ∧ D.Ok ∧ D.sk = S
  far : ∀ k r, own k = some r → W.heap.size ≤ k
  below : Below W.heap.size W w
theorem Dsk.here {W w : World} {a : Nat} {S : Sk} {own : Own} (h : Dsk W a S own w) : ∀ k r, own k = some r → k < w.heap.size := let ⟨_, hd, _⟩ := h.out; hd.here
theorem Dsk.role {W w : World} {a : Nat} {S : Sk} {own : Own} (h : Dsk W a S own w) : own a = some .disk := let ⟨_, hd, _⟩ := h.out; hd.role
theorem Dsk.new_none {W w : World} {a : Nat} {S : Sk} {own : Own} (h : Dsk W a S own w) {k : Nat} (hk : w.heap.size ≤ k) : own k = none := by
  cases e : own k with
  | none => rfl
  | some r => have := h.here k r e; omega
theorem Dsk.of_steps {W w w' : World} {a : Nat} {S S' : Sk} {own own' : Own} (h : Dsk W a S own w) (hs : Steps own own' w w') (ho : ∃ D, DiskIs w' own' a D ∧ D.Ok ∧ D.sk = S') : Dsk W a S' own' w' := by
  refine ⟨ho, fun k r hk => ?_, h.below.trans (hs.below h.below.size h.far)⟩
  by_cases hl : k < w.heap.size
  · rw [hs.same k hl] at hk; exact h.far k r hk
  · have := h.below.size; omega
theorem Dsk.stay {W w w' : World} {a : Nat} {S : Sk} {own : Own} (h : Dsk W a S own w) (hb : Below w.heap.size w w') : Dsk W a S own w' := by
  refine h.of_steps (Steps.of_below hb) ?_
  obtain ⟨D, hd, hok, e⟩ := h.out
  exact ⟨D, hd.beside (o1 := fun _ => none) (o2 := fun _ => none) (Steps.of_below hb) (fun _ _ _ => .inl rfl), hok, e⟩
/-- What is turned is not the disk's. -/
theorem Dsk.set {W w : World} {a : Nat} {S : Sk} {own : Own} (h : Dsk W a S own w) {g : Nat} (hn : own g = none) (hf : W.heap.size ≤ g) (j : Nat) (v : Value) : Dsk W a S own (w.setCell ⟨g, j, none⟩ v) := by
  have hst : Steps (fun k => if k = g then some .disk else none) (fun k => if k = g then some .disk else none) w (w.setCell ⟨g, j, none⟩ v) :=
    ⟨rfl, rfl, rfl, by simp [World.setCell], fun k _ ho => by
      have hne : k ≠ g := by
        intro e; subst e
        rw [if_pos rfl] at ho
        rcases ho with h | h <;> cases h
      exact Below.heap_setCell _ _ _ _ hne, fun _ _ => rfl⟩
  obtain ⟨D, hd, hok, e⟩ := h.out
  exact ⟨⟨D, hd.beside hst (fun k r hr => .inl (if_neg (by intro e; subst e; rw [hn] at hr; cases hr))), hok, e⟩, h.far, h.below.setCell hf v⟩

theorem Dsk.new {w w' : World} {R : Int} (hd : DiskIs w' (fun k => if k = w.heap.size then some .disk else none) w.heap.size (DiskA.new R)) (hb : Below w.heap.size w w') :
    Dsk w w.heap.size (DiskA.new R).sk (fun k => if k = w.heap.size then some .disk else none) w' :=
  ⟨⟨_, hd, DiskA.new_ok R, rfl⟩, fun k r hk => (by
    have hk' : (if k = w.heap.size then some Role.disk else none) = some r := hk
    split at hk'
    · omega
    · cases hk'), hb⟩

theorem filed_sk {W w w' : World} {a : Nat} {D : DiskA} {own : Own} {s : ByteArray} {m : Bool} {e : Ending} {f : Sk → Nat → Sk × Int} {post : Nat → Int → DiskA → Prop} (h : Dsk W a D.sk own w) (hok : D.Ok)
    (hp : ∀ n x D2, Mp.get (D.begin (m && mayName s)).1.seen s = some n → post n x D2 → D2.Ok ∧ (D2.sk, x) = f D.sk.tick n)
    (hc : Filed own a (D.begin (m && mayName s)).1 (D.begin (m && mayName s)).2 s post w e w') :
    e = .returned (.int .i64 (D.sk.onFile s m f).2) ∧ ∃ own', Steps own own' w w' ∧ Dsk W a (D.sk.onFile s m f).1 own' w' := by
  obtain ⟨own', hs, hc⟩ := hc
  obtain ⟨e1, e2⟩ := sk_begin D (m && mayName s)
  have e3 : (D.begin (m && mayName s)).1.seen = D.sk.seen := congrArg Sk.seen e1
  have hok1 := DiskA.begin_ok hok (m && mayName s)
  unfold Sk.onFile
  rcases hc with ⟨h1, rfl, hd⟩ | ⟨h1, h2, rfl, hd⟩ | ⟨h1, n, x, D2, h2, h3, rfl, hd⟩
  · rw [e2] at h1 ⊢
    rw [if_pos h1]
    exact ⟨rfl, own', hs, h.of_steps hs ⟨_, hd, hok1, e1⟩⟩
  · rw [e2] at h1
    rw [e3] at h2
    rw [if_neg (by rw [h1]; decide), h2]
    exact ⟨rfl, own', hs, h.of_steps hs ⟨_, hd, hok1, e1⟩⟩
  · obtain ⟨h4, h5⟩ := hp n x D2 h2 h3
    rw [e2] at h1
    rw [e3] at h2
    rw [if_neg (by rw [h1]; decide), h2]
    dsimp only
    rw [← h5]
    exact ⟨rfl, own', hs, h.of_steps hs ⟨_, hd, h4, rfl⟩⟩

theorem Dsk.write {W w : World} {a : Nat} {S : Sk} {own : Own} (h : Dsk W a S own w) (hF : S.Fine) (s : ByteArray) (hs : s.size ≤ maxLen) (off : Int) {bv : Value} {b : List Nat} (hb : Bytes w bv b) (hbk : b ≠ [] → ∀ k, bv.ownBlock = some k → own k = none ∨ own k = some .ink) (hbl : b.length ≤ 1048576) :
    Calls Try.prog 44 #[.pointer (some ⟨a, 0, none⟩), .string s, .int .i64 off, bv] w fun e w' => e = .returned (.int .i64 (S.write s off b).2) ∧ ∃ own', Steps own own' w w' ∧ Dsk W a (S.write s off b).1 own' w' := by
  have h0 := h
  obtain ⟨D, hd, hok, rfl⟩ := h.out
  refine (write_any own a D s off bv b w hd hok hF.ops hF.left hs hF.few hF.room hF.used hF.short hb hbk hbl).mono fun e w' hc => filed_sk h0 hok (fun n x D2 _ hp => ?_) hc
  obtain ⟨e1, _⟩ := sk_begin D (mayNumber off && mayName s)
  have hok1 := DiskA.begin_ok hok (mayNumber off && mayName s)
  generalize (D.begin (mayNumber off && mayName s)).1 = D1 at *
  rw [← e1]
  unfold Sk.writeAt
  rcases hp with ⟨rfl, rfl, rfl⟩ | ⟨h1, h2, rfl, rfl⟩ | ⟨h1, h2, rfl, rfl⟩
  · exact ⟨hok1, by rw [if_pos rfl]⟩
  · exact ⟨hok1, by rw [if_neg h1, if_neg (by rw [show D2.sk.hasRoom n (off + b.length) = D2.hasRoom n (off + b.length) from rfl, h2]; decide)]⟩
  · exact ⟨DiskA.used_ok (DiskA.withFile_ok hok1 _ _) _, by rw [if_neg h1, if_pos (show D1.sk.hasRoom n (off + b.length) = true from h2)]; rfl⟩

theorem Dsk.truncate {W w : World} {a : Nat} {S : Sk} {own : Own} (h : Dsk W a S own w) (hF : S.Fine) (s : ByteArray) (hs : s.size ≤ maxLen) (size : Int) :
    Calls Try.prog 15 #[.pointer (some ⟨a, 0, none⟩), .string s, .int .i64 size] w fun e w' => e = .returned (.int .i64 (S.truncate s size).2) ∧ ∃ own', Steps own own' w w' ∧ Dsk W a (S.truncate s size).1 own' w' := by
  have h0 := h
  obtain ⟨D, hd, hok, rfl⟩ := h.out
  refine (truncate_any own a D s size w hd hok hF.ops hF.left hs hF.few hF.room hF.used hF.short).mono fun e w' hc => filed_sk h0 hok (fun n x D2 _ hp => ?_) hc
  obtain ⟨e1, _⟩ := sk_begin D (mayNumber size && mayName s)
  have hok1 := DiskA.begin_ok hok (mayNumber size && mayName s)
  generalize (D.begin (mayNumber size && mayName s)).1 = D1 at *
  rw [← e1]
  unfold Sk.cutAt
  rcases hp with ⟨h2, rfl, rfl⟩ | ⟨h2, rfl, rfl⟩
  · exact ⟨hok1, by rw [if_neg (by rw [show D2.sk.hasRoom n size = D2.hasRoom n size from rfl, h2]; decide)]⟩
  · exact ⟨DiskA.used_ok (DiskA.withFile_ok hok1 _ _) _, by rw [if_pos (show D1.sk.hasRoom n size = true from h2)]; rfl⟩

theorem Dsk.sync {W w : World} {a : Nat} {S : Sk} {own : Own} (h : Dsk W a S own w) (hF : S.Fine) (s : ByteArray) (hs : s.size ≤ maxLen) :
    Calls Try.prog 40 #[.pointer (some ⟨a, 0, none⟩), .string s] w fun e w' => e = .returned (.int .i64 (S.sync s).2) ∧ ∃ own', Steps own own' w w' ∧ Dsk W a (S.sync s).1 own' w' := by
  have h0 := h
  obtain ⟨D, hd, hok, rfl⟩ := h.out
  refine (sync_any own a D s w hd hok hF.ops hF.left hs (fun n => Nat.le_of_lt (hF.few n))).mono fun e w' hc => filed_sk (m := true) h0 hok (fun n x D2 _ hp => ?_) (by rw [Bool.true_and]; exact hc)
  obtain ⟨e1, _⟩ := sk_begin D (mayName s)
  have hok1 := DiskA.begin_ok hok (mayName s)
  have hc : D.cont = (D.begin (mayName s)).1.cont := (D.begin_same _).2.2.2.2.1.symm
  obtain ⟨rfl, rfl⟩ := hp
  rw [hc, ← e1]
  exact ⟨DiskA.withFile_ok hok1 _ _, rfl⟩

theorem made_ok {D : DiskA} (h : D.Ok) (s : ByteArray) (fb : Nat) : (D.create s fb).Ok := by
  have hfm : ∀ n, (Mp.get (Mp.put D.fm (D.made + 1) fb) n).isSome = true ↔ n = D.made + 1 ∨ (Mp.get D.fm n).isSome = true := fun n => by
    rw [Mp.get_put]
    by_cases e : D.made + 1 = n
    · subst e; simp
    · rw [if_neg e]
      constructor
      · exact .inr
      · rintro (h | h)
        · exact absurd h.symm e
        · exact h
  refine ⟨fun t n hn => ?_, fun t n hn => ?_, fun t n hn => ?_, fun n hn => ?_⟩
  · refine (hfm n).2 ?_
    have hn' : Mp.get (Mp.put D.seen s (D.made + 1)) t = some n := hn
    rw [Mp.get_put] at hn'
    split at hn'
    · cases hn'; exact .inl rfl
    · exact .inr (h.seenIn t n hn')
  · exact (hfm n).2 (.inr (h.keptIn t n hn))
  · refine (hfm n).2 ?_
    have hn' : NameOp.create t n ∈ D.laid ++ [.create s (D.made + 1)] := hn
    rcases List.mem_append.1 hn' with h1 | h1
    · exact .inr (h.laidIn t n h1)
    · rw [List.mem_singleton] at h1
      cases h1; exact .inl rfl
  · have hn' := (hfm n).1 hn
    show n ≤ D.made + 1
    rcases hn' with h1 | h1
    · omega
    · have := h.made n h1; omega

theorem Dsk.create {W w : World} {a : Nat} {S : Sk} {own : Own} (h : Dsk W a S own w) (hF : S.Fine) (s : ByteArray) (hs : s.size ≤ maxLen) :
    Calls Try.prog 14 #[.pointer (some ⟨a, 0, none⟩), .string s] w fun e w' => e = .returned (.int .i64 (S.create s).2) ∧ ∃ own', Steps own own' w w' ∧ Dsk W a (S.create s).1 own' w' := by
  obtain ⟨D, hd, hok, rfl⟩ := h.out
  refine (create_any own a D s w hd hok hF.ops hF.left hs hF.laid hF.made).mono ?_
  rintro e w' ⟨own', hst, hc⟩
  obtain ⟨e1, e2⟩ := sk_begin D (mayName s)
  have hok1 := DiskA.begin_ok hok (mayName s)
  have hseen : D.seen = D.sk.seen := rfl
  unfold Sk.create
  rcases hc with ⟨h1, rfl, hd'⟩ | ⟨h1, h2, rfl, hd'⟩ | ⟨h1, h2, rfl, fb, hd'⟩
  · rw [e2] at h1 ⊢
    rw [if_pos h1]
    exact ⟨rfl, own', hst, h.of_steps hst ⟨_, hd', hok1, e1⟩⟩
  · rw [e2] at h1
    rw [hseen] at h2
    rw [if_neg (by rw [h1]; decide), if_pos h2]
    exact ⟨rfl, own', hst, h.of_steps hst ⟨_, hd', hok1, e1⟩⟩
  · rw [e2] at h1
    rw [hseen] at h2
    rw [if_neg (by rw [h1]; decide), if_neg (by rw [h2]; decide)]
    refine ⟨rfl, own', hst, h.of_steps hst ⟨_, hd', made_ok hok1 _ _, ?_⟩⟩
    have q := fun (f : Sk → Sk) => congrArg f e1
    generalize (D.begin (mayName s)).1 = D1 at *
    have r : ((D1.create s fb).sk) = { D1.sk.withFile (D1.sk.made + 1) ⟨[], [], []⟩ with made := D1.sk.made + 1, seen := Mp.put D1.sk.seen s (D1.sk.made + 1), laid := D1.sk.laid ++ [.create s (D1.sk.made + 1)] } := rfl
    rw [r, e1]; rfl

theorem Dsk.size {W w : World} {a : Nat} {S : Sk} {own : Own} (h : Dsk W a S own w) (s : ByteArray) :
    Calls Try.prog 22 #[.pointer (some ⟨a, 0, none⟩), .string s] w fun e w' => e = .returned (sizeV (S.size s)) ∧ w = w' := by
  obtain ⟨D, hd, hok, rfl⟩ := h.out
  exact size_any own a D s w hd hok

theorem Dsk.read {W w : World} {a : Nat} {S : Sk} {own : Own} (h : Dsk W a S own w) (hF : S.Fine) (s : ByteArray) (hs : s.size ≤ maxLen) (off n : Int) :
    Calls Try.prog 27 #[.pointer (some ⟨a, 0, none⟩), .string s, .int .i64 off, .int .i64 n] w fun e w' => ∃ p c, e = .returned (.tuple #[.slice p (S.read s off n).1.length c, .int .i64 (S.read s off n).2]) ∧
      w'.ownsRow w.heap.size 5 1 (.slice p (S.read s off n).1.length c) (S.read s off n).1.length (cellsOf (S.read s off n).1) ∧ ((S.read s off n).2 ≠ 0 → p = none ∧ c = 0) ∧ Steps own own w w' ∧ Dsk W a S.tick own w' := by
  obtain ⟨D, hd, hok, rfl⟩ := h.out
  refine (read_any own a D s off n w hd hok hF.ops hF.left hs hF.short).mono ?_
  rintro e w' ⟨hst, hd', hc⟩
  obtain ⟨e1, e2⟩ := sk_begin D ((mayNumber off && mayNumber n) && mayName s)
  have hok1 := DiskA.begin_ok hok ((mayNumber off && mayNumber n) && mayName s)
  have hD := h.of_steps hst ⟨_, hd', hok1, e1⟩
  have e3 : (D.begin ((mayNumber off && mayNumber n) && mayName s)).1.seen = D.sk.seen := congrArg Sk.seen e1
  have e4 : (D.begin ((mayNumber off && mayNumber n) && mayName s)).1.cont = D.sk.cont := congrArg Sk.cont e1
  rw [e2, e3, e4] at hc
  unfold Sk.read
  rcases hc with ⟨h1, rfl⟩ | ⟨h1, h2, rfl⟩ | ⟨h1, h2, h3, k, h4, h5⟩
  · rw [if_pos h1]
    exact ⟨none, 0, rfl, World.ownsRow_nil _ _ _ _, fun _ => ⟨rfl, rfl⟩, hst, hD⟩
  · rw [if_neg (by rw [h1]; decide), h2]
    exact ⟨none, 0, rfl, World.ownsRow_nil _ _ _ _, fun _ => ⟨rfl, rfl⟩, hst, hD⟩
  · rw [if_neg (by rw [h1]; decide), h4]
    dsimp only
    rcases h5 with ⟨h6, rfl⟩ | ⟨h6, v, rfl, hown⟩
    · rw [if_pos h6]
      exact ⟨none, 0, rfl, World.ownsRow_nil _ _ _ _, fun _ => ⟨rfl, rfl⟩, hst, hD⟩
    · rw [if_neg (by omega)]
      dsimp only
      have hl : (((D.sk.cont k).seen.drop off.toNat).take n.toNat).length = n.toNat := by simp; omega
      rw [← hl] at hown
      have hsh : ∃ p c, v = .slice p (((D.sk.cont k).seen.drop off.toNat).take n.toNat).length c := by
        rcases hown.2 with ⟨h, h2⟩ | ⟨g, c, _, h, _⟩
        · exact ⟨none, 0, by rw [h, h2]⟩
        · exact ⟨_, c, h⟩
      obtain ⟨p, c, rfl⟩ := hsh
      rw [hl] at hown
      rw [hl]
      exact ⟨p, c, rfl, hown, fun h => absurd rfl h, hst, hD⟩
end Go.Proofs.Ytldkeelgnfegeaa

/- A file of a disk: what it is in memory; what is asked of it without an operation; records and slots, put. -/
namespace Go.Proofs.Ytldkeelgnfegeaa
open Go Go.RowKit Go.By

/-- A row of one's own: where it lies. -/
theorem own_shape {w : World} {base : Nat} {v : Value} {l : List Nat} (h : w.ownsRow base 5 1 v l.length (cellsOf l)) : ∃ p c, v = .slice p l.length c ∧ ∀ k, (Value.slice p l.length c).ownBlock = some k → base ≤ k ∧ k < w.heap.size := by
  rcases h.2 with ⟨h1, h2⟩ | ⟨g, c, cur, h1, h2, h3, h4⟩
  · exact ⟨none, 0, by rw [h1]; congr 1; omega, fun k hk => (by cases hk)⟩
  · refine ⟨_, c, h1, fun k hk => ?_⟩
    cases hk
    exact ⟨by first | exact h2 | exact h3 | exact h4.1 | omega, (Array.getElem?_eq_some_iff.1 (by first | exact h2 | exact h3)).1⟩

theorem recPut (k : Nat) (v : Value) (l : List Nat) (w : World) (hk : k < 256) (hv : Bytes w v l) (hl : l.length ≤ 4096) :
    Calls Try.prog 45 #[.int .u8 k, v] w fun e w' => ∃ p c, e = .returned (.tuple #[.slice p (recOf k l).length c, .int .i64 0]) ∧ Bytes w' (.slice p (recOf k l).length c) (recOf k l) ∧ (∀ j, (Value.slice p (recOf k l).length c).ownBlock = some j → w.heap.size ≤ j) ∧ Below w.heap.size w w' := by
  refine (Rc.put_any k v l w hk hv hl).mono ?_
  rintro e w' ⟨v', rfl, ho, hb⟩
  obtain ⟨p, c, rfl, hg⟩ := own_shape ho
  exact ⟨p, c, rfl, Bytes.of_owns ho (recOf_small hk hv.small) (by rw [recOf_length]; unfold maxLen; omega), fun j hj => (hg j hj).1, hb⟩
theorem recTake (k : Nat) (b m : List Nat) (sv : Value) (w : World) (hk : k < 256) (hb : b.length ≤ 4096) (hm : m.length ≤ 1048576) (hs : ∀ c ∈ b, c < 256) (hsv : Bytes w sv (recOf k b ++ m)) :
    Calls Try.prog 26 #[sv] w fun e w' => ∃ p c, e = .returned (.tuple #[.int .u8 k, .slice p b.length c, .int .i64 (9 + b.length : Nat), .int .i64 0]) ∧ Bytes w' (.slice p b.length c) b ∧ Below w.heap.size w w' := by
  refine (Rc.take_any sv _ w hsv (by rw [List.length_append, recOf_length]; omega)).mono ?_
  rintro e w' ⟨v, hbw, h⟩
  rw [if_pos (isRec_rec hk hb hs), kind_rec, bodyLen_rec k b m hb, body_rec] at h
  obtain ⟨p, c, rfl, _⟩ := own_shape h.2
  exact ⟨p, c, h.1, Bytes.of_owns h.2 hs (by unfold maxLen; omega), hbw⟩
theorem slotPut (g : Nat) (v : Value) (l : List Nat) (w : World) (hg : g < 18446744073709551616) (hv : Bytes w v l) (hl : l.length ≤ 113) :
    Calls Try.prog 54 #[.int .u64 g, v] w fun e w' => ∃ p c, e = .returned (.tuple #[.slice p (slotOf g l).length c, .int .i64 0]) ∧ Bytes w' (.slice p (slotOf g l).length c) (slotOf g l) ∧ (∀ j, (Value.slice p (slotOf g l).length c).ownBlock = some j → w.heap.size ≤ j) ∧ Below w.heap.size w w' := by
  refine (Sl.put_any g v l w hg hv hl).mono ?_
  rintro e w' ⟨rfl, hF⟩
  have h3 := hF.sec (slotOf_length hl) (slotOf_small hl hv.small)
  rw [slotOf_length hl]
  exact ⟨_, _, rfl, h3.1, fun j hj => (by cases hj; exact Nat.le_refl _), hF.2⟩

/-- The file of the name s on the disk at a, in its block g; E is what it knows to have been written. -/
structure Fil (W : World) (g a : Nat) (s : ByteArray) (E : Nat) (own : Own) (w : World) : Prop where
  cells : w.heap[g]? = some (.cells #[.pointer (some ⟨a, 0, none⟩), .string s, .int .i64 E] 58 (0, 0))
  free : own g = none
  far : W.heap.size ≤ g
theorem Fil.lt {W w : World} {g a : Nat} {s : ByteArray} {E : Nat} {own : Own} (h : Fil W g a s E own w) : g < w.heap.size := (Array.getElem?_eq_some_iff.1 h.cells).1
theorem Fil.steps {W w w' : World} {g a : Nat} {s : ByteArray} {E : Nat} {own own' : Own} (h : Fil W g a s E own w) (hs : Steps own own' w w') : Fil W g a s E own' w' :=
  ⟨(hs.block g h.lt (.inl h.free)).trans h.cells, (hs.same g h.lt).trans h.free, h.far⟩
theorem Fil.stay {W w w' : World} {g a : Nat} {s : ByteArray} {E : Nat} {own : Own} (h : Fil W g a s E own w) (hb : Below w.heap.size w w') : Fil W g a s E own w' := h.steps (Steps.of_below hb)
theorem Fil.same {W w w' : World} {g a : Nat} {s : ByteArray} {E : Nat} {own : Own} (h : Fil W g a s E own w) (hk : w'.heap[g]? = w.heap[g]?) : Fil W g a s E own w' := ⟨hk.trans h.cells, h.free, h.far⟩

set_option maxRecDepth 100000 in
theorem isNone_any {W w : World} {g a : Nat} {s : ByteArray} {E : Nat} {own : Own} (h : Fil W g a s E own w) :
    Calls Try.prog 21 #[.pointer (some ⟨g, 0, none⟩)] w fun e w' => e = .returned (.bool false) ∧ w = w' := by
  have c0 := cells_of h.cells 0
  clear h
  go_enter Try.func21, Try.ntmps21
  go_wp2
  go_ret
  exact ⟨rfl, rfl⟩
set_option maxRecDepth 100000 in
theorem isNone_nil (w : World) : Calls Try.prog 21 #[.pointer none] w fun e w' => e = .returned (.bool true) ∧ w = w' := by
  go_enter Try.func21, Try.ntmps21
  go_wp2
  go_ret
  exact ⟨rfl, rfl⟩

set_option maxRecDepth 100000 in
theorem name_any {W w : World} {g a : Nat} {s : ByteArray} {E : Nat} {own : Own} (h : Fil W g a s E own w) :
    Calls Try.prog 18 #[.pointer (some ⟨g, 0, none⟩)] w fun e w' => e = .returned (.string s) ∧ w = w' := by
  have HN := Lib.hid (isNone_any h)
  have c1 := cells_of h.cells 1
  clear h
  go_enter Try.func18, Try.ntmps18
  go_wp2_with fail
  refine HN.out.mono ?_
  rintro e w1 ⟨rfl, rfl⟩
  go_wp2
  go_ret
  exact ⟨rfl, rfl⟩

/-- Where the next record goes. -/
def endAt (S : Sk) (s : ByteArray) (E : Nat) : Nat := max E ((S.size s).getD 0)
set_option maxRecDepth 100000 in
theorem end_any {W w : World} {g a : Nat} {s : ByteArray} {E : Nat} {S : Sk} {own : Own} (hD : Dsk W a S own w) (h : Fil W g a s E own w) :
    Calls Try.prog 9 #[.pointer (some ⟨g, 0, none⟩)] w fun e w' => e = .returned (.int .i64 (endAt S s E)) ∧ ∃ m, w' = w.drewN m := by
  have HN := Lib.hid (isNone_any h)
  have c0 := cells_of h.cells 0
  have c1 := cells_of h.cells 1
  have c2 := cells_of h.cells 2
  have hs : ∀ n, Calls Try.prog 22 #[.pointer (some ⟨a, 0, none⟩), .string s] (w.drewN n) fun e w' => e = .returned (sizeV (S.size s)) ∧ w' = w.drewN n := fun n => (Dsk.size (w := w.drewN n) (hD.stay (Sl.below_drewN w n)) s).mono fun _ _ h => ⟨h.1, h.2.symm⟩
  have HS := Lib.hid hs
  have HE : Hid (endAt S s E = max E ((S.size s).getD 0)) := rfl
  clear h hD hs
  cases hz : S.size s with
  | none =>
    rw [hz] at HS HE
    unfold sizeV at HS
    clear hz
    go_enter Try.func9, Try.ntmps9
    go_wp2_with (go_at_call 21; refine HN.out.mono ?_; rintro e w1 ⟨rfl, rfl⟩)
    go_quiet ((go_at_call 22; exact Calls.quiet_of_same (HS.out _)))
    go_wp2
    go_ret
    exact ⟨by rw [HE.out]; simp, _, rfl⟩
  | some n =>
    rw [hz] at HS HE
    unfold sizeV at HS
    clear hz
    go_enter Try.func9, Try.ntmps9
    go_wp2_with (go_at_call 21; refine HN.out.mono ?_; rintro e w1 ⟨rfl, rfl⟩)
    go_quiet ((go_at_call 22; exact Calls.quiet_of_same (HS.out _)))
    go_wp2
    all_goals
      go_ret
      exact ⟨by rw [HE.out, Option.getD_some]; first | rw [Nat.max_eq_right (by omega)]; rfl | rw [Nat.max_eq_left (by omega)]; rfl, _, rfl⟩

theorem below_same {w w0 : World} (e1 : w0.heap = w.heap) (e2 : w0.os = w.os) (e3 : w0.tape = w.tape) (e4 : w0.output = w.output) : Below w.heap.size w w0 := ⟨e2, e3, e4, by rw [e1]; exact Nat.le_refl _, fun _ _ => by rw [e1]⟩
theorem Fil.at_ {W w : World} {g a : Nat} {s : ByteArray} {E : Nat} {own : Own} (h : Fil W g a s E own w) : w.cell? ⟨g, 0, none⟩ = some (.pointer (some ⟨a, 0, none⟩)) ∧ w.cell? ⟨g, 1, none⟩ = some (.string s) ∧ w.cell? ⟨g, 2, none⟩ = some (.int .i64 E) := ⟨cells_of h.cells 0, cells_of h.cells 1, cells_of h.cells 2⟩

theorem Dsk.write_held {W w : World} {g a : Nat} {s : ByteArray} {E : Nat} {S : Sk} {own : Own} (h : Dsk W a S own w) (hf : Fil W g a s E own w) (hF : S.Fine) (hs : s.size ≤ maxLen) (off : Int) {bv : Value} {b : List Nat} (hb : Bytes w bv b) (hbk : b ≠ [] → ∀ k, bv.ownBlock = some k → own k = none ∨ own k = some .ink) (hbl : b.length ≤ 1048576) :
    ∀ w0 : World, w0.heap = w.heap → w0.os = w.os → w0.tape = w.tape → w0.output = w.output → Calls Try.prog 44 #[.pointer (some ⟨a, 0, none⟩), .string s, .int .i64 off, bv] w0 fun e w' => e = .returned (.int .i64 (S.write s off b).2) ∧
      w'.cell? ⟨g, 0, none⟩ = some (.pointer (some ⟨a, 0, none⟩)) ∧ w'.cell? ⟨g, 1, none⟩ = some (.string s) ∧ ∃ own', Steps own own' w w' ∧ Dsk W a (S.write s off b).1 own' w' := by
  intro w0 e1 e2 e3 e4
  have hb0 := below_same e1 e2 e3 e4
  refine ((h.stay hb0).write hF s hs off (hb.below hb0) hbk hbl).mono ?_
  rintro e w' ⟨rfl, own', hst, hd⟩
  have hf' := (hf.stay hb0).steps hst
  exact ⟨rfl, hf'.at_.1, hf'.at_.2.1, own', (Steps.of_below hb0).trans hst, hd⟩

set_option maxRecDepth 100000 in
theorem recordPut (k : Nat) (v : Value) (l : List Nat) (w : World) (hk : k < 256) (hv : Bytes w v l) (hl : l.length ≤ 4096) :
    Calls Try.prog 24 #[.agg #[.int .u8 k, v]] w fun e w' => ∃ p c, e = .returned (.tuple #[.slice p (recOf k l).length c, .int .i64 0]) ∧ Bytes w' (.slice p (recOf k l).length c) (recOf k l) ∧ (∀ j, (Value.slice p (recOf k l).length c).ownBlock = some j → w.heap.size ≤ j) ∧ Below w.heap.size w w' := by
  have HP := Lib.hid (recPut k v l (w.alloc (.cells #[.int .u8 k, v] 64)) hk (hv.below ((Below.refl _ _).alloc (Nat.le_refl _) _)) hl)
  have hlt := fun (i : Nat) (x : Value) (h : #[Value.int .u8 k, v][i]? = some x) => (cells_of (heap_alloc_new w (.cells #[Value.int .u8 k, v] 64)) i).trans h
  have h0 := hlt 0 _ rfl
  have h1 := hlt 1 _ rfl
  clear hv hlt
  go_enter Try.func24, Try.ntmps24
  go_wp2_with fail
  refine HP.out.mono ?_
  rintro e w1 ⟨p, c, rfl, hb1, hfar, hbw⟩
  have hz : w.heap.size + 1 = (w.alloc (.cells #[Value.int .u8 k, v] 64)).heap.size := by simp
  have HFIN : Hid (Bytes w1 (.slice p (recOf k l).length c) (recOf k l) ∧ (∀ j, (Value.slice p (recOf k l).length c).ownBlock = some j → w.heap.size ≤ j) ∧ Below w.heap.size w w1) :=
    ⟨hb1, fun j hj => by have := hfar j hj; omega, ((Below.refl w.heap.size w).alloc (Nat.le_refl _) _).trans (hbw.mono (by omega))⟩
  clear hb1 hfar hbw hz HP h0 h1
  go_wp2
  go_ret2
  exact ⟨p, c, rfl, HFIN.out⟩
set_option maxRecDepth 100000 in
theorem layRec_any {W w : World} {g a : Nat} {s : ByteArray} {E : Nat} {S : Sk} {own : Own} (hD : Dsk W a S own w) (h : Fil W g a s E own w) (hF : S.Fine) (hs : s.size ≤ maxLen) (off : Int) (k : Nat) (hk : k < 256) {bv : Value} {b : List Nat} (hb : Bytes w bv b) (hbl : b.length ≤ 4096) :
    Calls Try.prog 23 #[.pointer (some ⟨g, 0, none⟩), .int .i64 off, .func (.func 24) #[.agg #[.int .u8 k, bv]] #[]] w fun e w' =>
      e = .returned (.tuple #[.int .i64 (if (S.write s off (recOf k b)).2 = 0 then 9 + b.length else 0 : Nat), .int .i64 (S.write s off (recOf k b)).2]) ∧ ∃ own', Steps own own' w w' ∧ Dsk W a (S.write s off (recOf k b)).1 own' w' := by
  have HN := Lib.hid (isNone_any h)
  have HP := Lib.hid (recordPut k bv b w hk hb hbl)
  have hrl : (recOf k b).length = 9 + b.length := recOf_length k b
  have HW : Hid (∀ w1 p c, Bytes w1 (.slice p (recOf k b).length c) (recOf k b) → (∀ j, (Value.slice p (recOf k b).length c).ownBlock = some j → w.heap.size ≤ j) → Below w.heap.size w w1 → _) := fun w1 p c hb1 hfar hbw => (hD.stay hbw).write_held (h.stay hbw) hF hs off hb1 (fun _ j hj => .inl (hD.new_none (hfar j hj))) (by omega)
  have HH := Lib.hid h
  clear hD h hb hF
  rw [hrl] at HW HP
  have hsb : ∃ S2 x, S.write s off (recOf k b) = (S2, x) := ⟨_, _, rfl⟩
  obtain ⟨S2, x, hR⟩ := hsb
  rw [hR] at HW ⊢
  clear hR
  dsimp only at HW ⊢
  go_enter Try.func23, Try.ntmps23
  go_wp2_with (go_at_call 21; refine HN.out.mono ?_; rintro e w1 ⟨rfl, rfl⟩)
  refine HP.out.mono ?_
  rintro e w1 ⟨p, c, rfl, hb1, hfar, hbw⟩
  have HW1 := Lib.hid (HW.out w1 p c hb1 hfar hbw)
  obtain ⟨c0, c1, _⟩ := (HH.out.stay hbw).at_
  have HB := Lib.hid hbw
  clear hb1 hfar hbw HN HP HH HW
  go_wp2
  go_region_held3 (fun w' => w'.cell? ⟨g, 0, none⟩ = some (.pointer (some ⟨a, 0, none⟩)) ∧ w'.cell? ⟨g, 1, none⟩ = some (.string s)) (go_keep)
    (first | (go_at_call 44; refine (HW1.out _ (by rfl) (by rfl) (by rfl) (by rfl)).mono ?_; rintro e w2 ⟨rfl, d0, d1, hfin⟩))
  have HFIN : Hid (∃ own', Steps own own' w w2 ∧ Dsk W a S2 own' w2) := let ⟨own', hs, hd⟩ := hfin; ⟨own', (Steps.of_below HB.out).trans hs, hd⟩
  clear hfin HW1 HB
  by_cases hx : x = 0
  · subst hx
    go_wp2
    go_ret2
    exact ⟨rfl, HFIN.out⟩
  · go_wp2
    go_ret2
    exact ⟨rfl, HFIN.out⟩

/-- Append: a record at the end. -/
def appendAt (S : Sk) (s : ByteArray) (E k : Nat) (b : List Nat) : Sk × Int := S.write s (endAt S s E) (recOf k b)
/-- What turned is the disk's, or the file's block. -/
structure Moves (g : Nat) (own own' : Own) (w w' : World) : Prop where
  os : w'.os = w.os
  tape : w'.tape = w.tape
  output : w'.output = w.output
  size : w.heap.size ≤ w'.heap.size
  block : ∀ k, k < w.heap.size → k ≠ g → (own k = none ∨ own k = some .ink) → w'.heap[k]? = w.heap[k]?
  same : ∀ k, k < w.heap.size → own' k = own k
theorem Steps.moves {own own' : Own} {w w' : World} (h : Steps own own' w w') (g : Nat) : Moves g own own' w w' := ⟨h.os, h.tape, h.output, h.size, fun k hk _ ho => h.block k hk ho, h.same⟩
theorem Moves.trans {g : Nat} {o1 o2 o3 : Own} {w1 w2 w3 : World} (h : Moves g o1 o2 w1 w2) (k : Moves g o2 o3 w2 w3) : Moves g o1 o3 w1 w3 :=
  ⟨k.os.trans h.os, k.tape.trans h.tape, k.output.trans h.output, Nat.le_trans h.size k.size,
    fun b hb hg hn => (k.block b (Nat.lt_of_lt_of_le hb h.size) hg (by rw [h.same b hb]; exact hn)).trans (h.block b hb hg hn),
    fun b hb => (k.same b (Nat.lt_of_lt_of_le hb h.size)).trans (h.same b hb)⟩
theorem Moves.refl (g : Nat) (own : Own) (w : World) : Moves g own own w w := ⟨rfl, rfl, rfl, Nat.le_refl _, fun _ _ _ _ => rfl, fun _ _ => rfl⟩
theorem Moves.set (g : Nat) (own : Own) (w : World) (j : Nat) (v : Value) : Moves g own own w (w.setCell ⟨g, j, none⟩ v) :=
  ⟨rfl, rfl, rfl, by simp, fun _ _ hk _ => Below.heap_setCell _ _ _ _ hk, fun _ _ => rfl⟩
theorem Fil.move {W w w' : World} {g g' a : Nat} {s : ByteArray} {E : Nat} {own own' : Own} (h : Fil W g a s E own w) (hs : Moves g' own own' w w') (hne : g ≠ g') : Fil W g a s E own' w' :=
  ⟨(hs.block g h.lt hne (.inl h.free)).trans h.cells, (hs.same g h.lt).trans h.free, h.far⟩

set_option maxRecDepth 100000 in
theorem append_any {W w : World} {g a : Nat} {s : ByteArray} {E : Nat} {S : Sk} {own : Own} (hD : Dsk W a S own w) (h : Fil W g a s E own w) (hF : S.Fine) (hs : s.size ≤ maxLen) (k : Nat) (hk : k < 256) {bv : Value} {b : List Nat} (hb : Bytes w bv b) (hbl : b.length ≤ 4096) (hE : endAt S s E ≤ 1099511627776) :
    Calls Try.prog 10 #[.pointer (some ⟨g, 0, none⟩), .int .u8 k, bv] w fun e w' =>
      e = .returned (.tuple #[.int .i64 (if (appendAt S s E k b).2 = 0 then endAt S s E else 0 : Nat), .int .i64 (appendAt S s E k b).2]) ∧ ∃ own', Moves g own own' w w' ∧ Dsk W a (appendAt S s E k b).1 own' w' ∧
        Fil W g a s (if (appendAt S s E k b).2 = 0 then endAt S s E + (9 + b.length) else E) own' w' := by
  obtain ⟨q, cq, rfl, _⟩ := hb.any
  have HE := Lib.hid (end_any hD h)
  have HL : Hid (∀ m, _) := fun m => layRec_any (hD.stay (Sl.below_drewN w m)) (h.stay (Sl.below_drewN w m)) hF hs (endAt S s E) k hk (Sl.bytes_drewN hb m) hbl
  have HH := Lib.hid h
  clear hD h hb hF
  have hsb : ∃ S2 x, S.write s (endAt S s E) (recOf k b) = (S2, x) := ⟨_, _, rfl⟩
  unfold appendAt
  obtain ⟨S2, x, hR⟩ := hsb
  rw [hR] at HL ⊢
  clear hR
  dsimp only at HL ⊢
  obtain ⟨N, hN⟩ : ∃ N, N = endAt S s E := ⟨_, rfl⟩
  rw [← hN] at HE HL hE ⊢
  clear hN
  go_enter Try.func10, Try.ntmps10
  go_wp2_with fail
  refine HE.out.mono ?_
  rintro e w1 ⟨rfl, m, rfl⟩
  go_wp2_with fail
  refine (HL.out m).mono ?_
  rintro e w2 ⟨rfl, own2, hst, hd⟩
  have hst2 := (Steps.of_below (own := own) (Sl.below_drewN w m)).trans hst
  have hf2 := HH.out.steps hst2
  have c2 := hf2.at_.2.2
  have fz := free_of hf2.cells 2
  have hset : ∀ M : Nat, Moves g own own2 w (w2.setCell ⟨g, 2, none⟩ (.int .i64 M)) ∧ Dsk W a S2 own2 (w2.setCell ⟨g, 2, none⟩ (.int .i64 M)) ∧ Fil W g a s M own2 (w2.setCell ⟨g, 2, none⟩ (.int .i64 M)) := fun M =>
    ⟨(hst2.moves g).trans (Moves.set g own2 w2 2 _), hd.set hf2.free hf2.far 2 _, (set_heap hf2.cells 2 _).1, hf2.free, hf2.far⟩
  have HSET := Lib.hid hset
  have HNO : Hid (Moves g own own2 w w2 ∧ Dsk W a S2 own2 w2 ∧ Fil W g a s E own2 w2) := ⟨hst2.moves g, hd, hf2⟩
  clear hst hd hst2 hf2 hset HE HL HH
  by_cases hx : x = 0
  · subst hx
    have hw : IntKind.i64.wrap ((N : Int) + ((9 + b.length : Nat) : Int)) = ((N + (9 + b.length) : Nat) : Int) := by rw [IntWalk.i64_in _ (by omega)]; omega
    go_wp2
    have hn : (N : Int) + (9 + (b.length : Int)) = ((N + (9 + b.length) : Nat) : Int) := by omega
    rw [hn]
    go_ret2
    exact ⟨rfl, own2, HSET.out _⟩
  · go_wp2
    go_ret2
    exact ⟨rfl, own2, HNO.out⟩
end Go.Proofs.Ytldkeelgnfegeaa
