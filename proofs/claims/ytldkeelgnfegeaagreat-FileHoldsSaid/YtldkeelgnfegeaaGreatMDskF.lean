/- The disk: a name is laid; Create. -/
import Derived.Test.YtldkeelgnfegeaaGreatMDskE
import Derived.Deep.RegionHeld3

namespace Go.Proofs.YtldkeelgnfegeaaGreat
open Go Go.RowKit Go.By

theorem set_grown {w : World} {b : Nat} {o o' : Obj} (h : w.heap[b]? = some o) : w.grownBy { w with heap := w.heap.setIfInBounds b o' } (some b) :=
  ⟨rfl, rfl, rfl, by simp, fun k _ hk => (MapKept.heap_set (o' := o') h).2 k (fun e => hk (by rw [e]))⟩

/-- m[a] = v, in a world of its own. -/
theorem update_world {α β : Type} [DecidableEq α] {P : Program} {w : World} {b : Nat} {mk : α → Value} {mv : β → Value} {m : List (α × β)} {t kt et : TypeId} (h : Mp.Is w b mk mv m) (K : Mp.KeyOf P kt mk) (ht : P.underlying t = some (.map kt et)) (a : α) (v : β) :
    ∃ w', (Instr.mapUpdate t (.map (some b)) (mk a) (mv v)).run P w = .ok () w' ∧ Mp.Is w' b mk mv (Mp.put m a v) ∧ w.grownBy w' (some b) ∧ w'.heap.size = w.heap.size := by
  obtain ⟨o, h1, h2⟩ := h.update K ht a v
  obtain ⟨⟨es, clock, h3, _⟩, _⟩ := h
  exact ⟨_, h1, h2, set_grown h3, by simp⟩

set_option maxRecDepth 100000 in
theorem redoCreate_any (s : ByteArray) (n b : Nat) (m : List (ByteArray × Nat)) (w : World) (hm : Mp.Is w b strV natV m) :
    Calls Tryz.prog 46 #[.agg #[.string s, .int .i64 n], .map (some b)] w fun e w' => e = .returned (.tuple #[]) ∧ Mp.Is w' b strV natV (Mp.put m s n) ∧ w.grownBy w' (some b) := by
  have hlt := hm.lt
  have hm1 : Mp.Is (w.alloc (.cells #[.string s, .int .i64 n] 97)) b strV natV m := hm.of_heap (Below.heap_alloc _ _ _ hlt)
  obtain ⟨w2, hrun, hm2, hg, _⟩ := update_world hm1 strK namesT s n
  have fin : Mp.Is w2 b strV natV (Mp.put m s n) ∧ w.grownBy w2 (some b) := ⟨hm2, ⟨hg.os, hg.tape, hg.output, Nat.le_trans (by simp) hg.size, fun k hk hn => (hg.block k (by simp; omega) hn).trans (Below.heap_alloc _ _ _ hk)⟩⟩
  have FIN := Lib.hid fin
  unfold strV natV at hrun
  clear hm hm1 hm2 hg fin hlt
  go_enter Tryz.func46, Tryz.ntmps46
  go_wp2
  go_returns
  exact ⟨rfl, FIN.out⟩

theorem nameOpInfo : (Tryz.prog.info? 109).map (fun i => (i.zero, i.size, i.bytes)) = some (some .nilFunc, 1, 8) := by kernel_rfl
theorem nameOps : Tryz.prog.underlying 52 = some (.slice 109) := by kernel_rfl

theorem laid_done {own : Own} {a bs bf : Nat} {D : DiskA} {w w1 w2 : World} {mk lv v2 : Value} {m' : List (ByteArray × Nat)} {op : NameOp} {o : Obj} (hd : DiskIs w own a D)
    (h1 : w.heap[a]? = some (.cells (diskCells D (.map (some bs)) mk lv (.map (some bf))) 56 (0, 0))) (h2 : Parts w own (.map (some bs)) mk (.map (some bf)) lv D) (h3 : mk ≠ .map none) (hr : own bs = some .seen)
    (hm : Mp.Is w1 bs strV natV m') (hg1 : w.grownBy w1 (some bs)) (hown : w2.ownsRow 0 109 1 v2 (D.laid.length + 1) (D.laid.map nameV ++ [nameV op])) (hg2 : (w1.alloc o).grownBy w2 lv.ownBlock)
    (hat : v2.ownBlock = lv.ownBlock ∨ v2.ownBlock = some (w1.alloc o).heap.size) :
    ∃ own', Tabled (w2.setCell ⟨a, 6, none⟩ v2) own' a bs bf { D with seen := m', laid := D.laid ++ [op] } ∧ Steps own own' w (w2.setCell ⟨a, 6, none⟩ v2) := by
  have hlt : a < w.heap.size := hd.here a _ hd.role
  have hbs : bs < w.heap.size := hd.here bs _ hr
  have hsa : bs ≠ a := by rintro rfl; rw [hd.role] at hr; cases hr
  have hla : lv.ownBlock ≠ some a := fun hh => by have := h2.laidR a hh; rw [hd.role] at this; cases this
  have hls : lv.ownBlock ≠ some bs := fun hh => by have := h2.laidR bs hh; rw [hr] at this; cases this
  have z1 := hg1.size
  have zA : (w1.alloc o).heap.size = w1.heap.size + 1 := by simp
  have z2 := hg2.size
  have old : ∀ k, k < w.heap.size → k ≠ bs → lv.ownBlock ≠ some k → w2.heap[k]? = w.heap[k]? := fun k hk h1 h2 =>
    ((hg2.block k (by omega) (fun e => h2 e.symm)).trans (Below.heap_alloc _ _ _ (by omega))).trans (hg1.block k hk (fun e => h1 (Option.some.inj e)))
  have ha2 : w2.heap[a]? = some (.cells (diskCells D (.map (some bs)) mk lv (.map (some bf))) 56 (0, 0)) := (old a hlt hsa.symm hla).trans h1
  have s6 := set_heap ha2 6 v2
  have hv2 : ∀ k, v2.ownBlock = some k → k < w2.heap.size := fun k hk => (hown.lt k hk).2
  obtain ⟨own', p1, p2, p3, p4, p5⟩ := own_moved (own := own) (w := w1.alloc o) (w' := w2) (fun k r hk => by have := hd.here k r hk; omega) (v := lv) (v' := v2) (r := .laid) (by decide) h2.laidR hat z2 hv2
  have hva : v2.ownBlock ≠ some a := fun hh => by
    have h6 := p3 a hh
    rw [p2 a _ hd.role] at h6; cases h6
  have hvs : v2.ownBlock ≠ some bs := fun hh => by
    have h6 := p3 bs hh
    rw [p2 bs _ hr] at h6; cases h6
  generalize hW : w2.setCell ⟨a, 6, none⟩ v2 = W at *
  have zW : W.heap.size = w2.heap.size := by rw [← hW]; simp
  have osW : W.os = w2.os ∧ W.tape = w2.tape ∧ W.output = w2.output := by rw [← hW]; exact ⟨rfl, rfl, rfl⟩
  have hW2 : ∀ k, k < w.heap.size → k ≠ a → k ≠ bs → lv.ownBlock ≠ some k → W.heap[k]? = w.heap[k]? := fun k hk q1 q2 q3 => (s6.2 k q1).trans (old k hk q2 q3)
  have stay : Stay own own' (fun r => r ≠ .disk ∧ r ≠ .seen ∧ r ≠ .laid) w W := ⟨p2, fun k r hk hr' => hW2 k (hd.here k r hk) (by rintro rfl; rw [hd.role] at hk; cases hk; exact hr'.1 rfl) (by rintro rfl; rw [hr] at hk; cases hk; exact hr'.2.1 rfl)
    (fun hh => by have := h2.laidR k hh; rw [this] at hk; cases hk; exact hr'.2.2 rfl)⟩
  have hms : Mp.Is W bs strV natV m' := hm.of_heap ((s6.2 bs hsa).trans ((hg2.block bs (by omega) (fun e => hls e.symm)).trans (Below.heap_alloc _ _ _ (by omega))))
  have parts : Parts W own' (.map (some bs)) mk (.map (some bf)) v2 { D with seen := m', laid := D.laid ++ [op] } := by
    refine ⟨.inr ⟨bs, rfl, p2 bs _ hr, hms⟩, h2.kept.stay stay (by decide), ?_, p3, h2.files.stay stay (by decide), fun n fb hn => (h2.each n fb hn).stay stay (by simp) (by simp) (by simp) (by simp) (by simp), fun hn => absurd hn h3, fun _ => ⟨by simp, by simp⟩, fun h0 => absurd h0 (by simp)⟩
    have := ownsRow_of_heap hown (w' := W) fun k hk => s6.2 k (fun e => hva (by rw [hk, e]))
    simpa using this
  have hcell : W.heap[a]? = some (.cells (diskCells D (.map (some bs)) mk v2 (.map (some bf))) 56 (0, 0)) := s6.1
  refine ⟨own', ⟨⟨⟨_, _, _, _, hcell, parts⟩, p2 a _ hd.role, fun k hk => hd.only k (p5 k hk), fun k r hk => by rw [zW]; exact p4 k r hk⟩, ⟨_, _, hcell, parts, h3⟩⟩, ⟨osW.1.trans (hg2.os.trans hg1.os), osW.2.1.trans (hg2.tape.trans hg1.tape), osW.2.2.trans (hg2.output.trans hg1.output), by omega, fun k hk hn => hW2 k hk ?_ ?_ ?_, fun k hk => p1 k (by omega)⟩⟩
  · rintro rfl; rw [hd.role] at hn; simp at hn
  · rintro rfl; rw [hr] at hn; simp at hn
  · intro hh; rw [h2.laidR k hh] at hn; simp at hn

set_option maxRecDepth 100000 in
theorem alterCreate_any (own : Own) (a bs bf : Nat) (D : DiskA) (s : ByteArray) (n : Nat) (w : World) (h : Tabled w own a bs bf D) (hl : D.laid.length < 1000000) :
    Calls Tryz.prog 45 #[.pointer (some ⟨a, 0, none⟩), nameV (.create s n)] w fun e w' => e = .returned (.tuple #[]) ∧ ∃ own', Tabled w' own' a bs bf { D with seen := Mp.put D.seen s n, laid := D.laid ++ [.create s n] } ∧ Steps own own' w w' := by
  obtain ⟨hd, mk, lv, h1, h2, h3⟩ := h
  have g4 : w.cell? ⟨a, 4, none⟩ = some (.map (some bs)) := cells_of h1 4
  have hrs : own bs = some .seen ∧ Mp.Is w bs strV natV D.seen := by
    rcases h2.seen with ⟨h, _⟩ | ⟨b, h, hb, hm⟩
    · cases h
    · cases h; exact ⟨hb, hm⟩
  have hlt : a < w.heap.size := hd.here a _ hd.role
  have hne : bs ≠ a := by
    rintro rfl
    rw [hd.role] at hrs; cases hrs.1
  have HD := Lib.hid hd; have H1 := Lib.hid h1; have H2 := Lib.hid h2; have HR := Lib.hid hrs
  clear hd h1 h2 hrs
  obtain ⟨i0, hi, hz0, hz1, hz2⟩ := info_parts nameOpInfo
  have HI := Lib.hid hi; have Z0 := Lib.hid hz0; have Z1 := Lib.hid hz1; have Z2 := Lib.hid hz2
  clear hi hz0 hz1 hz2
  unfold nameV
  go_enter Tryz.func45, Tryz.ntmps45
  go_wp2_with fail
  refine (redoCreate_any s n bs D.seen w HR.out.2).mono ?_
  rintro e w1 ⟨rfl, hm1, hg1⟩
  have q6 : w1.cell? ⟨a, 6, none⟩ = some lv := by
    rw [World.cell?_of_block (hg1.block a hlt (by simpa using fun h => hne h.symm))]; exact cells_of H1.out 6
  have HM1 := Lib.hid hm1; have HG1 := Lib.hid hg1
  have hlb : ∀ k, lv.ownBlock = some k → k < w.heap.size ∧ k ≠ bs ∧ k ≠ a := fun k hk => ⟨HD.out.here k _ (H2.out.laidR k hk), (by
    rintro rfl; have := H2.out.laidR k hk; rw [HR.out.1] at this; cases this), (by
    rintro rfl; have := H2.out.laidR k hk; rw [HD.out.role] at this; cases this)⟩
  have ho1 := ownsRow_of_heap H2.out.laid (w' := w1) fun k hk => hg1.block k (hlb k hk).1 (by simpa using (hlb k hk).2.1)
  have HO1 := Lib.hid ho1
  have HLB := Lib.hid hlb
  clear hm1 hg1 g4 ho1 hlb
  go_wp2_with (at_builtin; refine wpList_append_own_at _ rfl (.tmp 14) (.tmp 16) 52 rfl 0 109 i0 .nilFunc 1 8 nameOps HI.out Z0.out Z1.out Z2.out rfl (by decide) lv D.laid.length (D.laid.map nameV) rfl (HO1.out.alloc _) ⟨w1.heap.size, 0, none⟩ 1 1 [nameV (.create s n)] rfl rfl ?c1 ?c2 ?c3 ?c4 ?c5 ?c6)
  case c1 =>
    intro j u hu
    match j with
    | 0 => simp at hu; subst hu; exact World.cell?_alloc_new w1 _ _ 0
    | j + 1 => simp at hu
  case c2 => intro u hu; simp at hu; subst hu; rfl
  case c3 => unfold maxLen; omega
  case c4 => omega
  case c5 => omega
  intro v2 w2 hown hgrow _ hat
  obtain ⟨p2, c2, rfl⟩ : ∃ p c, v2 = .slice p (D.laid.length + 1) c := by
    rcases hown.2 with ⟨_, h⟩ | ⟨g, c, _, h, _⟩
    · omega
    · exact ⟨_, c, h⟩
  have z1 := HG1.out.size
  have q6' : w2.cell? ⟨a, 6, none⟩ = some lv := by
    rw [World.cell?_of_block (hgrow.block a (by simp; omega) (fun e => (HLB.out a e.symm).2.2 rfl)), World.cell?_alloc_lt _ _ _ (by simp; omega)]; exact q6
  have f6' : w2.frozen? ⟨a, 6, none⟩ = false := by
    rw [World.frozen?_of_block (hgrow.block a (by simp; omega) (fun e => (HLB.out a e.symm).2.2 rfl)), World.frozen?_alloc_old _ _ _ (by simp; omega), World.frozen?_of_block (HG1.out.block a hlt (by simpa using fun h => hne h.symm))]
    exact free_of H1.out 6
  have fin := laid_done HD.out H1.out H2.out h3 HR.out.1 HM1.out HG1.out hown hgrow (by simpa using hat)
  have FIN := Lib.hid fin
  clear fin hown hgrow hat q6
  go_wp2
  go_returns
  exact ⟨rfl, FIN.out⟩
end Go.Proofs.YtldkeelgnfegeaaGreat
