/- The disk: a name is laid; Create. -/
import Derived.Test.YtajfcnaifegonaaMDskE
import Derived.Deep.RegionHeld3
import Derived.RegionTactic
namespace Go.Proofs.Ytajfcnaifegonaa
open Go Go.RowKit Go.By
theorem set_grown {w : World} {b : Nat} {o o' : Obj} (h : w.heap[b]? = some o) : w.grownBy { w with heap := w.heap.setIfInBounds b o' } (some b) :=
  ⟨rfl, rfl, rfl, by simp, fun k _ hk => (MapKept.heap_set (o' := o') h).2 k (fun e => hk (by rw [e]))⟩
theorem update_world {α β : Type} [DecidableEq α] {P : Program} {w : World} {b : Nat} {mk : α → Value} {mv : β → Value} {m : List (α × β)} {t kt et : TypeId} (h : Mp.Is w b mk mv m) (K : Mp.KeyOf P kt mk) (ht : P.underlying t = some (.map kt et)) (a : α) (v : β) :
    ∃ w', (Instr.mapUpdate t (.map (some b)) (mk a) (mv v)).run P w = .ok () w' ∧ Mp.Is w' b mk mv (Mp.put m a v) ∧ w.grownBy w' (some b) ∧ w'.heap.size = w.heap.size := by
  obtain ⟨o, h1, h2⟩ := h.update K ht a v
  obtain ⟨⟨es, clock, h3, _⟩, _⟩ := h
  exact ⟨_, h1, h2, set_grown h3, by simp⟩
set_option maxRecDepth 100000 in
theorem redoCreate_any (s : ByteArray) (n b : Nat) (m : List (ByteArray × Nat)) (w : World) (hm : Mp.Is w b strV natV m) :
    Calls Try.prog 52 #[.agg #[.string s, .int .i64 n], .map (some b)] w fun e w' => e = .returned (.tuple #[]) ∧ Mp.Is w' b strV natV (Mp.put m s n) ∧ w.grownBy w' (some b) := by
  have hlt := hm.lt
  have hm1 : Mp.Is (w.alloc (.cells #[.string s, .int .i64 n] 116)) b strV natV m := hm.of_heap (Below.heap_alloc _ _ _ hlt)
  obtain ⟨w2, hrun, hm2, hg, _⟩ := update_world hm1 strK namesT s n
  have fin : Mp.Is w2 b strV natV (Mp.put m s n) ∧ w.grownBy w2 (some b) := ⟨hm2, ⟨hg.os, hg.tape, hg.output, Nat.le_trans (by simp) hg.size, fun k hk hn => (hg.block k (by simp; omega) hn).trans (Below.heap_alloc _ _ _ hk)⟩⟩
  have FIN := Lib.hid fin
  unfold strV natV at hrun
  clear hm hm1 hm2 hg fin hlt
  go_enter Try.func52, Try.ntmps52
  go_wp2
  go_returns
  exact ⟨rfl, FIN.out⟩
theorem nameOpInfo : (Try.prog.info? 140).map (fun i => (i.zero, i.size, i.bytes)) = some (some .nilFunc, 1, 8) := by kernel_rfl
theorem nameOps : Try.prog.underlying 68 = some (.slice 140) := by kernel_rfl
theorem laid_done {own : Own} {a bs bf : Nat} {D : DiskA} {w w1 w2 : World} {mk lv v2 : Value} {m' : List (ByteArray × Nat)} {op : NameOp} {o : Obj} (hd : DiskIs w own a D)
    (h1 : w.heap[a]? = some (.cells (diskCells D (.map (some bs)) mk lv (.map (some bf))) 72 (0, 0))) (h2 : Parts w own (.map (some bs)) mk (.map (some bf)) lv D) (h3 : mk ≠ .map none) (hr : own bs = some .seen)
    (hm : Mp.Is w1 bs strV natV m') (hg1 : w.grownBy w1 (some bs)) (hown : w2.ownsRow 0 140 1 v2 (D.laid.length + 1) (D.laid.map nameV ++ [nameV op])) (hg2 : (w1.alloc o).grownBy w2 lv.ownBlock)
    (hat : v2.ownBlock = lv.ownBlock ∨ v2.ownBlock = some (w1.alloc o).heap.size) :
    ∃ own', Tabled (w2.setCell ⟨a, 6, none⟩ v2) own' a bs bf { D with seen := m', laid := D.laid ++ [op] } ∧ Steps own own' w (w2.setCell ⟨a, 6, none⟩ v2) := by
  have hlt : a < w.heap.size := hd.here a _ hd.role
  have hbs : bs < w.heap.size := hd.here bs _ hr
  have hsa : bs ≠ a := by rintro rfl; rw [hd.role] at hr; cases hr
  have hla : lv.ownBlock ≠ some a := fun hh => by have := h2.laidR a hh; rw [hd.role] at this; cases this
  have hls : lv.ownBlock ≠ some bs := fun hh => by have := h2.laidR bs hh; rw [hr] at this; cases this
  have z1 := hg1.size
  have zA : (w1.alloc o).heap.size = w1.heap.size + 1 := by simp
  have z2 := hg2.size
  have old : ∀ k, k < w.heap.size → k ≠ bs → lv.ownBlock ≠ some k → w2.heap[k]? = w.heap[k]? := fun k hk h1 h2 =>
    ((hg2.block k (by omega) (fun e => h2 e.symm)).trans (Below.heap_alloc _ _ _ (by omega))).trans (hg1.block k hk (fun e => h1 (Option.some.inj e)))
  have ha2 : w2.heap[a]? = some (.cells (diskCells D (.map (some bs)) mk lv (.map (some bf))) 72 (0, 0)) := (old a hlt hsa.symm hla).trans h1
  have s6 := set_heap ha2 6 v2
  have hv2 : ∀ k, v2.ownBlock = some k → k < w2.heap.size := fun k hk => (hown.lt k hk).2
  obtain ⟨own', p1, p2, p3, p4, p5⟩ := own_moved (own := own) (w := w1.alloc o) (w' := w2) (fun k r hk => by have := hd.here k r hk; omega) (v := lv) (v' := v2) (r := .laid) (by decide) h2.laidR hat z2 hv2
  have hva : v2.ownBlock ≠ some a := fun hh => by
    have h6 := p3 a hh
    rw [p2 a _ hd.role] at h6; cases h6
  have hvs : v2.ownBlock ≠ some bs := fun hh => by
    have h6 := p3 bs hh
    rw [p2 bs _ hr] at h6; cases h6
  generalize hW : w2.setCell ⟨a, 6, none⟩ v2 = W at *
  have zW : W.heap.size = w2.heap.size := by rw [← hW]; simp
  have osW : W.os = w2.os ∧ W.tape = w2.tape ∧ W.output = w2.output := by rw [← hW]; exact ⟨rfl, rfl, rfl⟩
  have hW2 : ∀ k, k < w.heap.size → k ≠ a → k ≠ bs → lv.ownBlock ≠ some k → W.heap[k]? = w.heap[k]? := fun k hk q1 q2 q3 => (s6.2 k q1).trans (old k hk q2 q3)
  have stay : Stay own own' (fun r => r ≠ .disk ∧ r ≠ .seen ∧ r ≠ .laid) w W := ⟨p2, fun k r hk hr' => hW2 k (hd.here k r hk) (by rintro rfl; rw [hd.role] at hk; cases hk; exact hr'.1 rfl) (by rintro rfl; rw [hr] at hk; cases hk; exact hr'.2.1 rfl)
    (fun hh => by have := h2.laidR k hh; rw [this] at hk; cases hk; exact hr'.2.2 rfl)⟩
  have hms : Mp.Is W bs strV natV m' := hm.of_heap ((s6.2 bs hsa).trans ((hg2.block bs (by omega) (fun e => hls e.symm)).trans (Below.heap_alloc _ _ _ (by omega))))
  have parts : Parts W own' (.map (some bs)) mk (.map (some bf)) v2 { D with seen := m', laid := D.laid ++ [op] } := by
    refine ⟨.inr ⟨bs, rfl, p2 bs _ hr, hms⟩, h2.kept.stay stay (by decide), ?_, p3, h2.files.stay stay (by decide), fun n fb hn => (h2.each n fb hn).stay stay (by simp) (by simp) (by simp) (by simp) (by simp), fun hn => absurd hn h3, fun _ => ⟨by simp, by simp⟩, fun h0 => absurd h0 (by simp)⟩
    have := ownsRow_of_heap hown (w' := W) fun k hk => s6.2 k (fun e => hva (by rw [hk, e]))
    simpa using this
  have hcell : W.heap[a]? = some (.cells (diskCells D (.map (some bs)) mk v2 (.map (some bf))) 72 (0, 0)) := s6.1
  refine ⟨own', ⟨⟨⟨_, _, _, _, hcell, parts⟩, p2 a _ hd.role, fun k hk => hd.only k (p5 k hk), fun k r hk => by rw [zW]; exact p4 k r hk⟩, ⟨_, _, hcell, parts, h3⟩⟩, ⟨osW.1.trans (hg2.os.trans hg1.os), osW.2.1.trans (hg2.tape.trans hg1.tape), osW.2.2.trans (hg2.output.trans hg1.output), by omega, fun k hk hn => hW2 k hk ?_ ?_ ?_, fun k hk => p1 k (by omega)⟩⟩
  · rintro rfl; rw [hd.role] at hn; simp at hn
  · rintro rfl; rw [hr] at hn; simp at hn
  · intro hh; rw [h2.laidR k hh] at hn; simp at hn
set_option maxRecDepth 100000 in
theorem alterCreate_any (own : Own) (a bs bf : Nat) (D : DiskA) (s : ByteArray) (n : Nat) (w : World) (h : Tabled w own a bs bf D) (hl : D.laid.length < 1000000) :
    Calls Try.prog 51 #[.pointer (some ⟨a, 0, none⟩), nameV (.create s n)] w fun e w' => e = .returned (.tuple #[]) ∧ ∃ own', Tabled w' own' a bs bf { D with seen := Mp.put D.seen s n, laid := D.laid ++ [.create s n] } ∧ Steps own own' w w' := by
  obtain ⟨hd, mk, lv, h1, h2, h3⟩ := h
  have g4 : w.cell? ⟨a, 4, none⟩ = some (.map (some bs)) := cells_of h1 4
  have hrs : own bs = some .seen ∧ Mp.Is w bs strV natV D.seen := by
    rcases h2.seen with ⟨h, _⟩ | ⟨b, h, hb, hm⟩
    · cases h
    · cases h; exact ⟨hb, hm⟩
  have hlt : a < w.heap.size := hd.here a _ hd.role
  have hne : bs ≠ a := by
    rintro rfl
    rw [hd.role] at hrs; cases hrs.1
  have HD := Lib.hid hd; have H1 := Lib.hid h1; have H2 := Lib.hid h2; have HR := Lib.hid hrs
  clear hd h1 h2 hrs
  obtain ⟨i0, hi, hz0, hz1, hz2⟩ := info_parts nameOpInfo
  have HI := Lib.hid hi; have Z0 := Lib.hid hz0; have Z1 := Lib.hid hz1; have Z2 := Lib.hid hz2
  clear hi hz0 hz1 hz2
  unfold nameV
  go_enter Try.func51, Try.ntmps51
  go_wp2_with fail
  refine (redoCreate_any s n bs D.seen w HR.out.2).mono ?_
  rintro e w1 ⟨rfl, hm1, hg1⟩
  have q6 : w1.cell? ⟨a, 6, none⟩ = some lv := by
    rw [World.cell?_of_block (hg1.block a hlt (by simpa using fun h => hne h.symm))]; exact cells_of H1.out 6
  have HM1 := Lib.hid hm1; have HG1 := Lib.hid hg1
  have hlb : ∀ k, lv.ownBlock = some k → k < w.heap.size ∧ k ≠ bs ∧ k ≠ a := fun k hk => ⟨HD.out.here k _ (H2.out.laidR k hk), (by
    rintro rfl; have := H2.out.laidR k hk; rw [HR.out.1] at this; cases this), (by
    rintro rfl; have := H2.out.laidR k hk; rw [HD.out.role] at this; cases this)⟩
  have ho1 := ownsRow_of_heap H2.out.laid (w' := w1) fun k hk => hg1.block k (hlb k hk).1 (by simpa using (hlb k hk).2.1)
  have HO1 := Lib.hid ho1
  have HLB := Lib.hid hlb
  clear hm1 hg1 g4 ho1 hlb
  go_wp2_with (at_builtin; refine wpList_append_own_at _ rfl (.tmp 14) (.tmp 16) 68 rfl 0 140 i0 .nilFunc 1 8 nameOps HI.out Z0.out Z1.out Z2.out rfl (by decide) lv D.laid.length (D.laid.map nameV) rfl (HO1.out.alloc _) ⟨w1.heap.size, 0, none⟩ 1 1 [nameV (.create s n)] rfl rfl ?c1 ?c2 ?c3 ?c4 ?c5 ?c6)
  case c1 =>
    intro j u hu
    match j with
    | 0 => simp at hu; subst hu; exact World.cell?_alloc_new w1 _ _ 0
    | j + 1 => simp at hu
  case c2 => intro u hu; simp at hu; subst hu; rfl
  case c3 => unfold maxLen; omega
  case c4 => omega
  case c5 => omega
  intro v2 w2 hown hgrow _ hat
  obtain ⟨p2, c2, rfl⟩ : ∃ p c, v2 = .slice p (D.laid.length + 1) c := by
    rcases hown.2 with ⟨_, h⟩ | ⟨g, c, _, h, _⟩
    · omega
    · exact ⟨_, c, h⟩
  have z1 := HG1.out.size
  have q6' : w2.cell? ⟨a, 6, none⟩ = some lv := by
    rw [World.cell?_of_block (hgrow.block a (by simp; omega) (fun e => (HLB.out a e.symm).2.2 rfl)), World.cell?_alloc_lt _ _ _ (by simp; omega)]; exact q6
  have f6' : w2.frozen? ⟨a, 6, none⟩ = false := by
    rw [World.frozen?_of_block (hgrow.block a (by simp; omega) (fun e => (HLB.out a e.symm).2.2 rfl)), World.frozen?_alloc_old _ _ _ (by simp; omega), World.frozen?_of_block (HG1.out.block a hlt (by simpa using fun h => hne h.symm))]
    exact free_of H1.out 6
  have fin := laid_done HD.out H1.out H2.out h3 HR.out.1 HM1.out HG1.out hown hgrow (by simpa using hat)
  have FIN := Lib.hid fin
  clear fin hown hgrow hat q6
  go_wp2
  go_returns
  exact ⟨rfl, FIN.out⟩
end Go.Proofs.Ytajfcnaifegonaa
/- The disk: Create. -/
namespace Go.Proofs.Ytajfcnaifegonaa
open Go Go.RowKit Go.By
theorem Tabled.setMade {w : World} {own : Own} {a bs bf : Nat} {D : DiskA} (h : Tabled w own a bs bf D) (n : Nat) :
    Tabled (w.setCell ⟨a, 7, none⟩ (.int .i64 n)) own a bs bf { D with made := n } ∧ Steps own own w (w.setCell ⟨a, 7, none⟩ (.int .i64 n)) := by
  obtain ⟨hd, mk, lv, h1, h2, h3⟩ := h
  have s := hd.setMade n
  have s7 := set_heap h1 7 (.int .i64 n)
  refine ⟨⟨s.1, mk, lv, s7.1, ?_, h3⟩, s.2⟩
  exact parts_numbers (h2.stay ⟨fun _ _ h => h, fun k r hk hr => s7.2 k (by rintro rfl; rw [hd.role] at hk; cases hk; exact hr rfl)⟩) rfl rfl rfl rfl rfl
def DiskA.newFile (D : DiskA) (n fb : Nat) : DiskA := { D with fm := Mp.put D.fm n fb, cont := fun k => if k = n then ⟨[], [], []⟩ else D.cont k }
theorem file_made {own : Own} {a bs bf : Nat} {D : DiskA} {w : World} (h : Tabled w own a bs bf D) (n : Nat) (_hn : Mp.get D.fm n = none) :
    ∃ w', (Instr.mapUpdate 70 (.map (some bf)) (.int .i64 n) (.pointer (some ⟨w.heap.size, 0, none⟩))).run Try.prog ((w.alloc (.cells #[.slice none 0 0, .slice none 0 0, .slice none 0 0] 106)).drew) = .ok () w' ∧
      ∃ own', Tabled w' own' a bs bf (D.newFile n w.heap.size) ∧ Steps own own' w w' := by
  obtain ⟨hd, mk, lv, h1, h2, h3⟩ := h
  have hrf : own bf = some .files ∧ Mp.Is w bf natV ptrV D.fm := by
    rcases h2.files with ⟨h, _⟩ | ⟨b, h, hb, hm⟩
    · cases h
    · cases h; exact ⟨hb, hm⟩
  have hbf : bf < w.heap.size := hd.here bf _ hrf.1
  have hlt : a < w.heap.size := hd.here a _ hd.role
  have hfa : bf ≠ a := by rintro rfl; have := hrf.1; rw [hd.role] at this; cases this
  obtain ⟨wa, hwa⟩ : ∃ wa, wa = (w.alloc (.cells #[.slice none 0 0, .slice none 0 0, .slice none 0 0] 106)).drew := ⟨_, rfl⟩
  rw [← hwa]
  have hba : Below w.heap.size w wa := by rw [hwa]; exact ((Below.refl _ _).alloc (Nat.le_refl _) _).drew
  have za : wa.heap.size = w.heap.size + 1 := by rw [hwa]; simp
  have hfb : wa.heap[w.heap.size]? = some (.cells #[.slice none 0 0, .slice none 0 0, .slice none 0 0] 106 (0, 0)) := by rw [hwa]; exact heap_alloc_new w _
  have hma : Mp.Is wa bf natV ptrV D.fm := hrf.2.of_heap (hba.block bf hbf)
  obtain ⟨w', hrun, hm', hg, hz⟩ := update_world hma natK filesT n w.heap.size
  refine ⟨w', hrun, own.add w.heap.size (.file n), ?_⟩
  have oth : ∀ k, k < wa.heap.size → k ≠ bf → w'.heap[k]? = wa.heap[k]? := fun k hk hne => hg.block k hk (fun e => hne (Option.some.inj e))
  have old : ∀ k, k < w.heap.size → k ≠ bf → w'.heap[k]? = w.heap[k]? := fun k hk hne => (oth k (by omega) hne).trans (hba.block k hk)
  have stay : Stay own (own.add w.heap.size (.file n)) (fun r => r ≠ .files) w w' := ⟨fun k r hk => Own.add_old hd.here (Nat.le_refl _) hk, fun k r hk hr => old k (hd.here k r hk) (by rintro rfl; rw [hrf.1] at hk; cases hk; exact hr rfl)⟩
  have hcell : w'.heap[a]? = some (.cells (diskCells D (.map (some bs)) mk lv (.map (some bf))) 72 (0, 0)) := (old a hlt hfa.symm).trans h1
  have hnew : FileIs w' (own.add w.heap.size (.file n)) n w.heap.size ⟨[], [], []⟩ :=
    ⟨⟨.slice none 0 0, .slice none 0 0, .slice none 0 0, [], (oth _ (by omega) (by omega)).trans hfb, RowV.nil _ _ _, RowV.nil _ _ _, World.ownsRow_nil _ _ _ _, fun k hk => (by cases hk), rfl⟩, Own.add_self _ _ _, fun _ hl _ => third_cell ((oth _ (by omega) (by omega)).trans hfb) rfl hl⟩
  have parts : Parts w' (own.add w.heap.size (.file n)) (.map (some bs)) mk (.map (some bf)) lv (D.newFile n w.heap.size) := by
    refine ⟨h2.seen.stay stay (by decide), h2.kept.stay stay (by decide), ownsRow_of_heap h2.laid fun k hk => stay.block k _ (h2.laidR k hk) (by decide), fun k hk => stay.role k _ (h2.laidR k hk), .inr ⟨bf, rfl, stay.role bf _ hrf.1, hm'⟩, fun k fb hk => ?_, fun hk => absurd hk h3, fun _ => ⟨by simp, by simp⟩, h2.bareL⟩
    have hk' : Mp.get (Mp.put D.fm n w.heap.size) k = some fb := hk
    rw [Mp.get_put] at hk'
    show FileIs _ _ k fb (if k = n then _ else D.cont k)
    by_cases he : n = k
    · subst he
      rw [if_pos rfl] at hk' ⊢
      cases hk'
      exact hnew
    · rw [if_neg he] at hk'
      rw [if_neg (fun e => he e.symm)]
      exact (h2.each k fb hk').stay stay (by simp) (by simp) (by simp) (by simp) (by simp)
  refine ⟨⟨⟨⟨_, _, _, _, hcell, parts⟩, stay.role a _ hd.role, fun k hk => ?_, fun k r hk => ?_⟩, ⟨_, _, hcell, parts, h3⟩⟩, ⟨hg.os.trans hba.os, hg.tape.trans hba.tape, hg.output.trans hba.output, by omega, fun k hk hn => old k hk ?_, fun k hk => Own.add_lt hk⟩⟩
  · rcases Own.add_some hk with ⟨_, h'⟩ | h'
    · cases h'
    · exact hd.only k h'
  · rcases Own.add_some hk with ⟨h', _⟩ | h'
    · omega
    · have := hd.here k r h'; omega
  · rintro rfl; rw [hrf.1] at hn; simp at hn
def DiskA.create (D : DiskA) (s : ByteArray) (fb : Nat) : DiskA :=
  { (({ D with made := D.made + 1 } : DiskA).newFile (D.made + 1) fb) with seen := Mp.put D.seen s (D.made + 1), laid := D.laid ++ [.create s (D.made + 1)] }
def Created (own : Own) (a : Nat) (D : DiskA) (s : ByteArray) (w : World) (e : Ending) (w' : World) : Prop :=
  ∃ own', Steps own own' w w' ∧ (
    ((D.begin (mayName s)).2 ≠ 0 ∧ e = .returned (.int .i64 (D.begin (mayName s)).2) ∧ DiskIs w' own' a (D.begin (mayName s)).1) ∨
    ((D.begin (mayName s)).2 = 0 ∧ (Mp.get D.seen s).isSome = true ∧ e = .returned (.int .i64 8) ∧ DiskIs w' own' a (D.begin (mayName s)).1) ∨
    ((D.begin (mayName s)).2 = 0 ∧ Mp.get D.seen s = none ∧ e = .returned (.int .i64 0) ∧ ∃ fb, DiskIs w' own' a ((D.begin (mayName s)).1.create s fb)))
set_option maxRecDepth 100000 in
set_option maxHeartbeats 1600000 in
theorem create_any (own : Own) (a : Nat) (D : DiskA) (s : ByteArray) (w : World) (h : DiskIs w own a D) (hk : D.Ok) (ho : D.ops < 4611686018427387904) (hl : D.left < 4611686018427387904) (hs : s.size ≤ maxLen) (hll : D.laid.length < 1000000) (hmd : D.made < 1000000) :
    Calls Try.prog 28 #[.pointer (some ⟨a, 0, none⟩), .string s] w (Created own a D s w) := by
  have HB := Lib.hid (begin_any own a D (mayName s) w h ho hl)
  have hsame : (D.begin (mayName s)).1.seen = D.seen ∧ (D.begin (mayName s)).1.fm = D.fm ∧ (D.begin (mayName s)).1.made = D.made ∧ (D.begin (mayName s)).1.laid = D.laid := by
    unfold DiskA.begin; split <;> exact ⟨rfl, rfl, rfl, rfl⟩
  have HK := Lib.hid hk
  have hfin : ∀ e w', Created own a D s w e w' = Created own a D s w e w' := fun _ _ => rfl
  obtain ⟨D1, hD1⟩ : ∃ D1, D1 = (D.begin (mayName s)).1 := ⟨_, rfl⟩
  obtain ⟨err, herr⟩ : ∃ err, err = (D.begin (mayName s)).2 := ⟨_, rfl⟩
  rw [← hD1, ← herr] at HB
  rw [← hD1] at hsame
  have HD1 := Lib.hid hD1; have HE := Lib.hid herr; have HS := Lib.hid hsame
  clear hfin hD1 herr hsame h hk ho hl
  go_enter Try.func28, Try.ntmps28
  go_wp2_with (go_at_call 49; refine (mayName_any s _ hs).mono ?_; rintro e w1 ⟨rfl, rfl⟩)
  refine HB.out.mono ?_
  rintro e w1 ⟨rfl, hd, hst⟩
  obtain ⟨ms, mk, mf, lv, h1, h2⟩ := hd.out
  have l1 := (h2.seen.look strK namesT (zeroInt w1) s).1
  have g4 : w1.cell? ⟨a, 4, none⟩ = some ms := cells_of h1 4
  have H2 := Lib.hid h2
  have HD := Lib.hid hd
  have HST := Lib.hid hst
  clear h1 h2 hd hst HB
  unfold strV at l1
  by_cases he : err = 0
  · subst he
    cases hg : Mp.get D1.seen s with
    | some n =>
      rw [hg] at l1
      simp only [Option.map_some, Option.getD_some, Option.isSome_some, natV] at l1
      have HG := Lib.hid hg; clear hg
      go_wp2
      go_ret
      exact ⟨own, HST.out, .inr (.inl ⟨HE.out.symm, by rw [← HS.out.1, HG.out]; rfl, rfl, HD1.out ▸ HD.out⟩)⟩
    | none =>
      rw [hg] at l1
      simp only [Option.map_none, Option.getD_none, Option.isSome_none] at l1
      have HG := Lib.hid hg; clear hg
      go_wp2_with fail
      refine (makeTables_any own a D1 w1 HD.out).mono ?_
      rintro e w2 ⟨rfl, own2, bs, bf, ht, hst2⟩
      have HT := Lib.hid ht; have HST2 := Lib.hid hst2
      obtain ⟨n1, hn1⟩ : ∃ n1, n1 = D1.made + 1 := ⟨_, rfl⟩
      have hm0 := ht.setMade n1
      have hnone : Mp.get D1.fm n1 = none := by
        cases hh : Mp.get D1.fm n1 with
        | none => rfl
        | some x =>
          have := HK.out.made n1 (by rw [← HS.out.2.1, hh]; rfl)
          rw [← HS.out.2.2.1] at this; omega
      have hfm := file_made hm0.1 n1 hnone
      have HM0 := Lib.hid hm0
      obtain ⟨w4, hrun, own4, ht4, hst4⟩ := hfm
      have HT4 := Lib.hid ht4; have HST4 := Lib.hid hst4
      obtain ⟨hd2, mk2, lv2, q1, q2, q3⟩ := ht
      have g7 : w2.cell? ⟨a, 7, none⟩ = some (.int .i64 D1.made) := cells_of q1 7
      have g8 : w2.cell? ⟨a, 8, none⟩ = some (.map (some bf)) := cells_of q1 8
      have f7 := free_of q1 7
      have hmd1 : (D1.made : Int) < 1000000 := by rw [HS.out.2.2.1]; omega
      have ca : ((D1.made : Int) + 1) = (n1 : Int) := by omega
      have HN1 := Lib.hid hn1; clear hn1
      clear hm0 ht4 hst4 hst2 hd2 q1 q2 q3 hnone l1 g4
      go_wp2
      obtain ⟨hd3, mk3, lv3, t1, t2, t3⟩ := HM0.out.1
      obtain ⟨hd4, mk4, lv4, u1, u2, u3⟩ := HT4.out
      have k7 := cells_of t1 7
      have k8 := cells_of t1 8
      have j7 : w4.cell? ⟨a, 7, none⟩ = some (.int .i64 n1) := cells_of u1 7
      have k7' : (w2.setCell ⟨a, 7, none⟩ (.int .i64 n1)).cell? ⟨a, 7, none⟩ = some (.int .i64 n1) := k7
      have k8' : (w2.setCell ⟨a, 7, none⟩ (.int .i64 n1)).cell? ⟨a, 8, none⟩ = some (.map (some bf)) := k8
      clear hd3 t1 t2 t3 hd4 u1 u2 u3 k7 k8 g7 g8 f7 ca hmd1
      generalize w2.setCell ⟨a, 7, none⟩ (.int .i64 n1) = w3 at *
      have ha3 : a < w3.heap.size := HM0.out.1.disk.here a _ HM0.out.1.disk.role
      go_region
      all_goals
        go_wp2_with fail
        refine (alterCreate_any own4 a bs bf _ s n1 w4 HT4.out (by show D1.laid.length < _; rw [HS.out.2.2.2]; exact hll)).mono ?_
        rintro e w5 ⟨rfl, own5, ht5, hst5⟩
        have HT5 := Lib.hid ht5; have HST5 := Lib.hid hst5
        clear ht5 hst5
        go_wp2
        go_ret
        refine ⟨own5, HST.out.trans (HST2.out.trans (HM0.out.2.trans (HST4.out.trans HST5.out))), .inr (.inr ⟨HE.out.symm, by rw [← HS.out.1]; exact HG.out, rfl, w3.heap.size, ?_⟩)⟩
        have e1 := HT5.out.disk
        rw [← HD1.out]
        have e2 := HN1.out
        subst e2
        exact e1
  · go_wp2
    go_ret
    exact ⟨own, HST.out, .inl ⟨by rw [← HE.out]; exact he, by rw [← HE.out]; rfl, HD1.out ▸ HD.out⟩⟩
end Go.Proofs.Ytajfcnaifegonaa
