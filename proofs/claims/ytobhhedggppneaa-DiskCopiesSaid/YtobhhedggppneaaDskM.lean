/- The disk: file.alter. -/
import Derived.Test.YtobhhedggppneaaDskL
namespace Go.Proofs.Ytobhhedggppneaa
open Go Go.RowKit Go.By

theorem byteOpInfo : (Try.prog.info? 98).map (fun i => (i.zero, i.size, i.bytes)) = some (some .nilFunc, 1, 8) := by kernel_rfl
theorem byteOps : Try.prog.underlying 63 = some (.slice 98) := by kernel_rfl

def allBits : Nat → Bool := fun _ => true

theorem all_lasts : Lasts 34 #[] (fun _ => False) none (fun _ _ => True) allBits := always_lasts

theorem altered {own : Own} {n fb : Nat} {F : FileA} {o : ByteOp} {w w1 w2 w3 w4 : World} {sv kv lv sv1 lv1 c : Value} {cs : List Value} {l1 : List Nat} {ob : Obj} (h1 : w.heap[fb]? = some (.cells #[sv, kv, lv] 65 (0, 0)))
    (h2 : RowV w own (.fseen n) sv F.seen) (h3 : RowV w own (.fkept n) kv F.kept) (h5 : ∀ k, lv.ownBlock = some k → own k = some (.flaid n)) (h6 : OpsV w own cs F.laid) (hr : own fb = some (.file n)) (here : ∀ k r, own k = some r → k < w.heap.size) (ho : OpV w own c o)
    (hrt : RowTo (fun _ => False) none w w1 sv sv1 l1) (hs : ∀ c ∈ l1, c < 256) (e2 : w2 = w1.setCell ⟨fb, 0, none⟩ sv1) (e3 : w3 = w2.alloc ob)
    (hown : w4.ownsRow 0 98 1 lv1 (F.laid.length + 1) (cs ++ [c])) (hgrow : w3.grownBy w4 lv.ownBlock) (hat : lv1.ownBlock = lv.ownBlock ∨ lv1.ownBlock = some w3.heap.size) :
    w4.heap[fb]? = some (.cells #[sv1, kv, lv] 65 (0, 0)) ∧
    ∃ own', FileIs (w4.setCell ⟨fb, 2, none⟩ lv1) own' n fb { F with seen := l1, laid := F.laid ++ [o] } ∧ FileStep n none own own' w (w4.setCell ⟨fb, 2, none⟩ lv1) := by
  have hfb := here fb _ hr
  have hsf : sv.ownBlock ≠ some fb := fun e => by have := h2.role fb e; rw [hr] at this; cases this
  have hlf : lv.ownBlock ≠ some fb := fun e => by have := h5 fb e; rw [hr] at this; cases this
  have hs1 : ∀ g, sv1.ownBlock = some g → g ≠ fb ∧ lv.ownBlock ≠ some g := fun g hg => by
    rcases hrt.moved with hm | ⟨q, hm, hq⟩
    · rw [hm] at hg
      have hg' := h2.role g hg
      exact ⟨fun e => (by rw [e, hr] at hg'; cases hg'), fun e => (by have := h5 g e; rw [hg'] at this; cases this)⟩
    · rw [hm] at hg; cases hg
      exact ⟨by omega, fun e => (by have := here _ _ (h5 _ e); omega)⟩
  have z1 := hrt.turned.size
  have z2 : w2.heap.size = w1.heap.size := by rw [e2]; simp
  have z3 : w3.heap.size = w1.heap.size + 1 := by rw [e3]; simp [z2]
  have z4 := hgrow.size
  have z5 : (w4.setCell ⟨fb, 2, none⟩ lv1).heap.size = w4.heap.size := by simp
  have f1 : w1.heap[fb]? = some (.cells #[sv, kv, lv] 65 (0, 0)) := (hrt.keeps hfb hsf (by simp)).trans h1
  obtain ⟨g1, g2⟩ := set_heap f1 0 sv1
  rw [← e2] at g1 g2
  have f3 : w3.heap[fb]? = some (.cells #[sv1, kv, lv] 65 (0, 0)) := by rw [e3, Below.heap_alloc w2 _ _ (by omega)]; simpa using g1
  have f4 : w4.heap[fb]? = some (.cells #[sv1, kv, lv] 65 (0, 0)) := (hgrow.block fb (by omega) (fun e => hlf e.symm)).trans f3
  obtain ⟨g3, g4⟩ := set_heap f4 2 lv1
  have hT : Turned (fun j => j = fb ∨ sv.ownBlock = some j ∨ lv.ownBlock = some j) w (w4.setCell ⟨fb, 2, none⟩ lv1) := by
    refine Turned.setCell (((Turned.alloc (Turned.setCell (hrt.turned.weaken (S' := fun j => j = fb ∨ sv.ownBlock = some j ∨ lv.ownBlock = some j) ?_) (.inl rfl) 0 sv1) ob).trans (w2 := w4) (S' := fun k => lv.ownBlock = some k) ?_ ?_)) (.inl rfl) 2 lv1
    · rintro k (h | h)
      · exact .inr (.inl h)
      · cases h
    · rw [← e2, ← e3]; exact Turned.of_grown hgrow
    · exact fun j hj => .inl (.inr (.inr hj))
  have hs1w : ∀ g, sv1.ownBlock = some g → (w4.setCell ⟨fb, 2, none⟩ lv1).heap[g]? = w1.heap[g]? ∧ g < w1.heap.size := fun g hg => by
    have hlt : g < w1.heap.size := by
      rcases hrt.owns.2 with ⟨h, _⟩ | ⟨g', cap, cur, h, _, hg', _⟩
      · rw [h] at hg; cases hg
      · rw [h] at hg; cases hg; exact (Array.getElem?_eq_some_iff.1 hg').1
    refine ⟨?_, hlt⟩
    rw [g4 g (hs1 g hg).1, hgrow.block g (by omega) (fun e => (hs1 g hg).2 e.symm), e3, Below.heap_alloc w2 _ _ (by omega), g2 g (hs1 g hg).1]
  obtain ⟨o1, a1, a2, a3, a4⟩ := own_went here h2.role hrt.moved (fun k hk => (hs1w k hk).2)
  have here1 : ∀ k r, o1 k = some r → k < w3.heap.size := fun k r hk => by
    rcases a4 k r hk with h | ⟨_, h, _⟩
    · have := here k r h; omega
    · omega
  have hlv1 : ∀ k, lv1.ownBlock = some k → k ≠ fb ∧ k < w4.heap.size := fun k hk => by
    refine ⟨?_, ?_⟩
    · rcases hat with hm | hm
      · rw [hm] at hk; rintro rfl; exact hlf hk
      · rw [hm] at hk; cases hk; omega
    · rcases hown.2 with ⟨h, _⟩ | ⟨g', cap, cur, h, _, hg', _⟩
      · rw [h] at hk; cases hk
      · rw [h] at hk; cases hk; exact (Array.getElem?_eq_some_iff.1 hg').1
  obtain ⟨o2, b1, b2, b3, b4⟩ := own_went here1 (v := lv) (v' := lv1) (r := .flaid n) (w' := w4) (fun k hk => a2 k _ (h5 k hk)) (by
    rcases hat with h | h
    · exact .inl h
    · exact .inr ⟨_, h, Nat.le_refl _⟩) (fun k hk => (hlv1 k hk).2)
  have keep : ∀ k r, own k = some r → r ≠ .file n → r ≠ .fseen n → r ≠ .flaid n → (w4.setCell ⟨fb, 2, none⟩ lv1).heap[k]? = w.heap[k]? := fun k r hk q1 q2 q3 => hT.block k (here k r hk) (by
    rintro (rfl | h | h)
    · rw [hr] at hk; cases hk; exact q1 rfl
    · have := h2.role k h; rw [hk] at this; cases this; exact q2 rfl
    · have := h5 k h; rw [hk] at this; cases this; exact q3 rfl)
  have stay : Stay own o2 (· = .ink) w (w4.setCell ⟨fb, 2, none⟩ lv1) := ⟨fun k r h => b2 k r (a2 k r h), fun k r hk hr' => keep k r hk (by rw [hr']; simp) (by rw [hr']; simp) (by rw [hr']; simp)⟩
  refine ⟨f4, o2, ⟨⟨sv1, kv, lv1, cs ++ [c], by simpa using g3, ⟨ownsRow_of_heap hrt.owns fun k hk => (hs1w k hk).1, fun k hk => b2 k _ (a3 k hk), hs⟩,
    ⟨ownsRow_of_heap h3.owns fun k hk => keep k _ (h3.role k hk) (by simp) (by simp) (by simp), fun k hk => b2 k _ (a2 k _ (h3.role k hk)), h3.small⟩, ?_, b3, OpsV.snoc (ho.stay stay rfl) (h6.stay stay rfl)⟩, b2 fb _ (a2 fb _ hr), fun _ _ h0 => absurd h0 (by simp)⟩, ⟨hT.weaken ?_, ?_, fun k r h => b2 k r (a2 k r h), ?_⟩⟩
  · simp only [List.length_append, List.length_cons, List.length_nil, Nat.zero_add]
    exact ownsRow_of_heap hown fun k hk => g4 k (hlv1 k hk).1
  · rintro k (rfl | e | e)
    · exact .inl ⟨_, hr, .inl rfl⟩
    · exact .inl ⟨_, h2.role k e, .inr (.inl rfl)⟩
    · exact .inl ⟨_, h5 k e, .inr (.inr (.inr rfl))⟩
  · intro k hk
    rw [b1 k (by omega), a1 k hk]
  · intro k r hk
    rcases b4 k r hk with h' | ⟨q1, q2, rfl⟩
    · rcases a4 k r h' with h' | ⟨q1, q2, rfl⟩
      · exact .inl h'
      · exact .inr ⟨q1, by omega, .inl (.inr (.inl rfl))⟩
    · exact .inr ⟨by omega, by omega, .inl (.inr (.inr (.inr rfl)))⟩

set_option maxRecDepth 100000 in
theorem alterFile_any (own : Own) (n fb : Nat) (F : FileA) (c : Value) (o : ByteOp) (w : World) (h : FileIs w own n fb F) (ho : OpV w own c o)
    (here : ∀ k r, own k = some r → k < w.heap.size) (hl : F.laid.length < 1000000) :
    Calls Try.prog 30 #[.pointer (some ⟨fb, 0, none⟩), c] w fun e w' => e = .returned (.int .i64 (((redoOp allBits o 0 F.seen).1.length : Int) - F.seen.length)) ∧
      ∃ own', FileIs w' own' n fb { F with seen := (redoOp allBits o 0 F.seen).1, laid := F.laid ++ [o] } ∧ FileStep n none own own' w w' := by
  obtain ⟨⟨sv, kv, lv, cs, h1, h2, h3, h4, h5, h6⟩, hr⟩ := h
  have hfb := here fb _ hr
  have hsf : sv.ownBlock ≠ some fb := fun e => by have := h2.role fb e; rw [hr] at this; cases this
  obtain ⟨gf, fs, rfl, hent, hcall⟩ := redo_any all_lasts own o c sv F.seen 0 w trivial h2.owns ho (fun q hq => ⟨fun e => (by have := h2.role q e; rw [hq] at this; cases this), fun h => h⟩) (fun _ _ h => h) (by unfold drawLim; omega)
  obtain ⟨ps, cps, hsv⟩ : ∃ p c, sv = .slice p F.seen.length c := by
    rcases h2.owns.2 with ⟨h, h2⟩ | ⟨g, cap, _, h, _⟩
    · exact ⟨none, 0, by rw [h, h2]⟩
    · exact ⟨_, cap, h⟩
  have c0 : w.cell? ⟨fb, 0, none⟩ = some sv := cells_of h1 0
  have hrest : ∀ w1 sv1 l1, RowTo (fun _ => False) none w w1 sv sv1 l1 → w1.heap[fb]? = some (.cells #[sv, kv, lv] 65 (0, 0)) := fun w1 sv1 l1 h => (h.keeps hfb hsf (by simp)).trans h1
  have HREST := Lib.hid hrest; have HO := Lib.hid ho; have HCALL := Lib.hid hcall; have HFB := Lib.hid hfb; have HSF := Lib.hid hsf; have HR := Lib.hid hr; have HERE := Lib.hid here
  have H1 := Lib.hid h1; have H2 := Lib.hid h2; have H3 := Lib.hid h3; have H4 := Lib.hid h4; have H5 := Lib.hid h5; have H6 := Lib.hid h6
  clear hrest ho hcall hfb hsf hr here h1 h2 h3 h4 h5 h6
  subst hsv
  go_enter Try.func30, Try.ntmps30
  go_wp2_with fail
  refine HCALL.out.mono ?_
  rintro e w1 ⟨sv1, rfl, _, hrt⟩
  have f1 := HREST.out w1 sv1 _ hrt
  have g1 : w1.cell? ⟨fb, 0, none⟩ = some (.slice ps F.seen.length cps) := cells_of f1 0
  have g2 : w1.frozen? ⟨fb, 0, none⟩ = false := free_of f1 0
  obtain ⟨g5, g6⟩ := set_heap f1 0 sv1
  have g7 : (w1.setCell ⟨fb, 0, none⟩ sv1).cell? ⟨fb, 2, none⟩ = some lv := (cells_of g5 2).trans (by simp)
  have HRT := Lib.hid hrt; have G5 := Lib.hid g5
  have hsm := redoOp_small (bit := allBits) HO.out (i := 0) H2.out.small
  have HSM := Lib.hid hsm
  have ho4 : (w1.setCell ⟨fb, 0, none⟩ sv1).ownsRow 0 98 1 lv F.laid.length cs := ownsRow_of_heap H4.out fun k hk => (g6 k (by
    rintro rfl; have := H5.out k hk; rw [HR.out] at this; cases this)).trans (hrt.keeps (HERE.out k _ (H5.out k hk)) (fun e => by have := H2.out.role k e; rw [H5.out k hk] at this; cases this) (by simp))
  have HO4 := Lib.hid ho4
  obtain ⟨p1, cp1, hsv1⟩ : ∃ p c, sv1 = .slice p (redoOp allBits o 0 F.seen).1.length c := by
    rcases hrt.owns.2 with ⟨h, h2⟩ | ⟨g, cap, _, h, _⟩
    · exact ⟨none, 0, by rw [h, h2]⟩
    · exact ⟨_, cap, h⟩
  clear hrt g5 g6 hsm ho4
  subst hsv1
  obtain ⟨i0, hi, hz0, hz1, hz2⟩ := info_parts byteOpInfo
  have HI := Lib.hid hi; have Z0 := Lib.hid hz0; have Z1 := Lib.hid hz1; have Z2 := Lib.hid hz2
  clear hi hz0 hz1 hz2
  obtain ⟨sv1, hsv1⟩ : ∃ v, v = (Value.slice p1 (redoOp allBits o 0 F.seen).1.length cp1) := ⟨_, rfl⟩
  have g8 : (w1.setCell ⟨fb, 0, none⟩ (.slice p1 (redoOp allBits o 0 F.seen).1.length cp1)).heap.size = w1.heap.size := by simp
  have G8 := Lib.hid g8; clear g8
  go_wp2_with (at_builtin; refine wpList_append_own_at _ rfl (.tmp 24) (.tmp 26) 63 rfl 0 98 i0 .nilFunc 1 8 byteOps HI.out Z0.out Z1.out Z2.out rfl (by decide) lv F.laid.length cs rfl (HO4.out.alloc _) ⟨w1.heap.size, 0, none⟩ 1 1 [.func (.func gf) fs #[]] rfl rfl ?c1 ?c2 ?c3 ?c4 ?c5 ?c6)
  case c1 =>
    intro j u hu
    match j with
    | 0 =>
      simp at hu; subst hu
      have := World.cell?_alloc_new (w1.setCell ⟨fb, 0, none⟩ (.slice p1 (redoOp allBits o 0 F.seen).1.length cp1)) #[.func (.func gf) fs #[]] 98 0
      rw [G8.out] at this
      exact this
    | j + 1 => simp at hu
  case c2 => intro u hu; simp at hu; subst hu; rfl
  case c3 => unfold maxLen; omega
  case c4 => omega
  case c5 => omega
  intro v2 w4 hown hgrow _ hat
  have fin := altered H1.out H2.out H3.out H5.out H6.out HR.out HERE.out HO.out HRT.out HSM.out rfl rfl hown hgrow (by simpa using hat)
  obtain ⟨f4, hfin⟩ := fin
  have FIN := Lib.hid hfin
  obtain ⟨p2, c2, rfl⟩ : ∃ p c, v2 = .slice p (F.laid.length + 1) c := by
    rcases hown.2 with ⟨_, h⟩ | ⟨g, c, _, h, _⟩
    · omega
    · exact ⟨_, c, h⟩
  have g9 : w4.cell? ⟨fb, 2, none⟩ = some lv := cells_of f4 2
  have g10 : w4.frozen? ⟨fb, 2, none⟩ = false := free_of f4 2
  obtain ⟨q1, q2⟩ := set_heap f4 2 (.slice p2 (F.laid.length + 1) c2)
  have g11 : (w4.setCell ⟨fb, 2, none⟩ (.slice p2 (F.laid.length + 1) c2)).cell? ⟨fb, 0, none⟩ = some (.slice p1 (redoOp allBits o 0 F.seen).1.length cp1) := (cells_of q1 0).trans (by simp)
  have hlen : (redoOp allBits o 0 F.seen).1.length ≤ 9223372036854775807 := by
    rcases HRT.out.owns.2 with ⟨_, h2⟩ | ⟨g, cap, _, h, _, _, h2, h3, _⟩
    · omega
    · unfold maxLen at h3; omega
  have hlen2 : F.seen.length ≤ 9223372036854775807 := by
    rcases H2.out.owns.2 with ⟨_, h2⟩ | ⟨g, cap, _, h, _, _, h2, h3, _⟩
    · omega
    · unfold maxLen at h3; omega
  clear hown hgrow hat hfin q1 q2 f4
  go_wp2
  go_ret
  exact ⟨rfl, FIN.out⟩
end Go.Proofs.Ytobhhedggppneaa
