/- The disk: Create. -/
import Derived.Test.YtldkeelgnfegeaaGreatMDskF
import Derived.RegionTactic

namespace Go.Proofs.YtldkeelgnfegeaaGreat
open Go Go.RowKit Go.By

theorem Tabled.setMade {w : World} {own : Own} {a bs bf : Nat} {D : DiskA} (h : Tabled w own a bs bf D) (n : Nat) :
    Tabled (w.setCell ⟨a, 7, none⟩ (.int .i64 n)) own a bs bf { D with made := n } ∧ Steps own own w (w.setCell ⟨a, 7, none⟩ (.int .i64 n)) := by
  obtain ⟨hd, mk, lv, h1, h2, h3⟩ := h
  have s := hd.setMade n
  have s7 := set_heap h1 7 (.int .i64 n)
  refine ⟨⟨s.1, mk, lv, s7.1, ?_, h3⟩, s.2⟩
  exact parts_numbers (h2.stay ⟨fun _ _ h => h, fun k r hk hr => s7.2 k (by rintro rfl; rw [hd.role] at hk; cases hk; exact hr rfl)⟩) rfl rfl rfl rfl rfl

def DiskA.newFile (D : DiskA) (n fb : Nat) : DiskA := { D with fm := Mp.put D.fm n fb, cont := fun k => if k = n then ⟨[], [], []⟩ else D.cont k }

/-- A file of no bytes is laid into the table. -/
theorem file_made {own : Own} {a bs bf : Nat} {D : DiskA} {w : World} (h : Tabled w own a bs bf D) (n : Nat) (_hn : Mp.get D.fm n = none) :
    ∃ w', (Instr.mapUpdate 54 (.map (some bf)) (.int .i64 n) (.pointer (some ⟨w.heap.size, 0, none⟩))).run Tryz.prog ((w.alloc (.cells #[.slice none 0 0, .slice none 0 0, .slice none 0 0] 75)).drew) = .ok () w' ∧
      ∃ own', Tabled w' own' a bs bf (D.newFile n w.heap.size) ∧ Steps own own' w w' := by
  obtain ⟨hd, mk, lv, h1, h2, h3⟩ := h
  have hrf : own bf = some .files ∧ Mp.Is w bf natV ptrV D.fm := by
    rcases h2.files with ⟨h, _⟩ | ⟨b, h, hb, hm⟩
    · cases h
    · cases h; exact ⟨hb, hm⟩
  have hbf : bf < w.heap.size := hd.here bf _ hrf.1
  have hlt : a < w.heap.size := hd.here a _ hd.role
  have hfa : bf ≠ a := by rintro rfl; have := hrf.1; rw [hd.role] at this; cases this
  obtain ⟨wa, hwa⟩ : ∃ wa, wa = (w.alloc (.cells #[.slice none 0 0, .slice none 0 0, .slice none 0 0] 75)).drew := ⟨_, rfl⟩
  rw [← hwa]
  have hba : Below w.heap.size w wa := by rw [hwa]; exact ((Below.refl _ _).alloc (Nat.le_refl _) _).drew
  have za : wa.heap.size = w.heap.size + 1 := by rw [hwa]; simp
  have hfb : wa.heap[w.heap.size]? = some (.cells #[.slice none 0 0, .slice none 0 0, .slice none 0 0] 75 (0, 0)) := by rw [hwa]; exact heap_alloc_new w _
  have hma : Mp.Is wa bf natV ptrV D.fm := hrf.2.of_heap (hba.block bf hbf)
  obtain ⟨w', hrun, hm', hg, hz⟩ := update_world hma natK filesT n w.heap.size
  refine ⟨w', hrun, own.add w.heap.size (.file n), ?_⟩
  have oth : ∀ k, k < wa.heap.size → k ≠ bf → w'.heap[k]? = wa.heap[k]? := fun k hk hne => hg.block k hk (fun e => hne (Option.some.inj e))
  have old : ∀ k, k < w.heap.size → k ≠ bf → w'.heap[k]? = w.heap[k]? := fun k hk hne => (oth k (by omega) hne).trans (hba.block k hk)
  have stay : Stay own (own.add w.heap.size (.file n)) (fun r => r ≠ .files) w w' := ⟨fun k r hk => Own.add_old hd.here (Nat.le_refl _) hk, fun k r hk hr => old k (hd.here k r hk) (by rintro rfl; rw [hrf.1] at hk; cases hk; exact hr rfl)⟩
  have hcell : w'.heap[a]? = some (.cells (diskCells D (.map (some bs)) mk lv (.map (some bf))) 56 (0, 0)) := (old a hlt hfa.symm).trans h1
  have hnew : FileIs w' (own.add w.heap.size (.file n)) n w.heap.size ⟨[], [], []⟩ :=
    ⟨⟨.slice none 0 0, .slice none 0 0, .slice none 0 0, [], (oth _ (by omega) (by omega)).trans hfb, RowV.nil _ _ _, RowV.nil _ _ _, World.ownsRow_nil _ _ _ _, fun k hk => (by cases hk), rfl⟩, Own.add_self _ _ _, fun _ hl _ => third_cell ((oth _ (by omega) (by omega)).trans hfb) rfl hl⟩
  have parts : Parts w' (own.add w.heap.size (.file n)) (.map (some bs)) mk (.map (some bf)) lv (D.newFile n w.heap.size) := by
    refine ⟨h2.seen.stay stay (by decide), h2.kept.stay stay (by decide), ownsRow_of_heap h2.laid fun k hk => stay.block k _ (h2.laidR k hk) (by decide), fun k hk => stay.role k _ (h2.laidR k hk), .inr ⟨bf, rfl, stay.role bf _ hrf.1, hm'⟩, fun k fb hk => ?_, fun hk => absurd hk h3, fun _ => ⟨by simp, by simp⟩, h2.bareL⟩
    have hk' : Mp.get (Mp.put D.fm n w.heap.size) k = some fb := hk
    rw [Mp.get_put] at hk'
    show FileIs _ _ k fb (if k = n then _ else D.cont k)
    by_cases he : n = k
    · subst he
      rw [if_pos rfl] at hk' ⊢
      cases hk'
      exact hnew
    · rw [if_neg he] at hk'
      rw [if_neg (fun e => he e.symm)]
      exact (h2.each k fb hk').stay stay (by simp) (by simp) (by simp) (by simp) (by simp)
  refine ⟨⟨⟨⟨_, _, _, _, hcell, parts⟩, stay.role a _ hd.role, fun k hk => ?_, fun k r hk => ?_⟩, ⟨_, _, hcell, parts, h3⟩⟩, ⟨hg.os.trans hba.os, hg.tape.trans hba.tape, hg.output.trans hba.output, by omega, fun k hk hn => old k hk ?_, fun k hk => Own.add_lt hk⟩⟩
  · rcases Own.add_some hk with ⟨_, h'⟩ | h'
    · cases h'
    · exact hd.only k h'
  · rcases Own.add_some hk with ⟨h', _⟩ | h'
    · omega
    · have := hd.here k r h'; omega
  · rintro rfl; rw [hrf.1] at hn; simp at hn

def DiskA.create (D : DiskA) (s : ByteArray) (fb : Nat) : DiskA :=
  { (({ D with made := D.made + 1 } : DiskA).newFile (D.made + 1) fb) with seen := Mp.put D.seen s (D.made + 1), laid := D.laid ++ [.create s (D.made + 1)] }

/-- What Create tells. -/
def Created (own : Own) (a : Nat) (D : DiskA) (s : ByteArray) (w : World) (e : Ending) (w' : World) : Prop :=
  ∃ own', Steps own own' w w' ∧ (
    ((D.begin (mayName s)).2 ≠ 0 ∧ e = .returned (.int .i64 (D.begin (mayName s)).2) ∧ DiskIs w' own' a (D.begin (mayName s)).1) ∨
    ((D.begin (mayName s)).2 = 0 ∧ (Mp.get D.seen s).isSome = true ∧ e = .returned (.int .i64 8) ∧ DiskIs w' own' a (D.begin (mayName s)).1) ∨
    ((D.begin (mayName s)).2 = 0 ∧ Mp.get D.seen s = none ∧ e = .returned (.int .i64 0) ∧ ∃ fb, DiskIs w' own' a ((D.begin (mayName s)).1.create s fb)))

set_option maxRecDepth 100000 in
set_option maxHeartbeats 1600000 in
theorem create_any (own : Own) (a : Nat) (D : DiskA) (s : ByteArray) (w : World) (h : DiskIs w own a D) (hk : D.Ok) (ho : D.ops < 4611686018427387904) (hl : D.left < 4611686018427387904) (hs : s.size ≤ maxLen) (hll : D.laid.length < 1000000) (hmd : D.made < 1000000) :
    Calls Tryz.prog 21 #[.pointer (some ⟨a, 0, none⟩), .string s] w (Created own a D s w) := by
  have HB := Lib.hid (begin_any own a D (mayName s) w h ho hl)
  have hsame : (D.begin (mayName s)).1.seen = D.seen ∧ (D.begin (mayName s)).1.fm = D.fm ∧ (D.begin (mayName s)).1.made = D.made ∧ (D.begin (mayName s)).1.laid = D.laid := by
    unfold DiskA.begin; split <;> exact ⟨rfl, rfl, rfl, rfl⟩
  have HK := Lib.hid hk
  have hfin : ∀ e w', Created own a D s w e w' = Created own a D s w e w' := fun _ _ => rfl
  obtain ⟨D1, hD1⟩ : ∃ D1, D1 = (D.begin (mayName s)).1 := ⟨_, rfl⟩
  obtain ⟨err, herr⟩ : ∃ err, err = (D.begin (mayName s)).2 := ⟨_, rfl⟩
  rw [← hD1, ← herr] at HB
  rw [← hD1] at hsame
  have HD1 := Lib.hid hD1; have HE := Lib.hid herr; have HS := Lib.hid hsame
  clear hfin hD1 herr hsame h hk ho hl
  go_enter Tryz.func21, Tryz.ntmps21
  go_wp2_with (go_at_call 43; refine (mayName_any s _ hs).mono ?_; rintro e w1 ⟨rfl, rfl⟩)
  refine HB.out.mono ?_
  rintro e w1 ⟨rfl, hd, hst⟩
  obtain ⟨ms, mk, mf, lv, h1, h2⟩ := hd.out
  have l1 := (h2.seen.look strK namesT (zeroInt w1) s).1
  have g4 : w1.cell? ⟨a, 4, none⟩ = some ms := cells_of h1 4
  have H2 := Lib.hid h2
  have HD := Lib.hid hd
  have HST := Lib.hid hst
  clear h1 h2 hd hst HB
  unfold strV at l1
  by_cases he : err = 0
  · subst he
    cases hg : Mp.get D1.seen s with
    | some n =>
      rw [hg] at l1
      simp only [Option.map_some, Option.getD_some, Option.isSome_some, natV] at l1
      have HG := Lib.hid hg; clear hg
      go_wp2
      go_ret
      exact ⟨own, HST.out, .inr (.inl ⟨HE.out.symm, by rw [← HS.out.1, HG.out]; rfl, rfl, HD1.out ▸ HD.out⟩)⟩
    | none =>
      rw [hg] at l1
      simp only [Option.map_none, Option.getD_none, Option.isSome_none] at l1
      have HG := Lib.hid hg; clear hg
      go_wp2_with fail
      refine (makeTables_any own a D1 w1 HD.out).mono ?_
      rintro e w2 ⟨rfl, own2, bs, bf, ht, hst2⟩
      have HT := Lib.hid ht; have HST2 := Lib.hid hst2
      obtain ⟨n1, hn1⟩ : ∃ n1, n1 = D1.made + 1 := ⟨_, rfl⟩
      have hm0 := ht.setMade n1
      have hnone : Mp.get D1.fm n1 = none := by
        cases hh : Mp.get D1.fm n1 with
        | none => rfl
        | some x =>
          have := HK.out.made n1 (by rw [← HS.out.2.1, hh]; rfl)
          rw [← HS.out.2.2.1] at this; omega
      have hfm := file_made hm0.1 n1 hnone
      have HM0 := Lib.hid hm0
      obtain ⟨w4, hrun, own4, ht4, hst4⟩ := hfm
      have HT4 := Lib.hid ht4; have HST4 := Lib.hid hst4
      obtain ⟨hd2, mk2, lv2, q1, q2, q3⟩ := ht
      have g7 : w2.cell? ⟨a, 7, none⟩ = some (.int .i64 D1.made) := cells_of q1 7
      have g8 : w2.cell? ⟨a, 8, none⟩ = some (.map (some bf)) := cells_of q1 8
      have f7 := free_of q1 7
      have hmd1 : (D1.made : Int) < 1000000 := by rw [HS.out.2.2.1]; omega
      have ca : ((D1.made : Int) + 1) = (n1 : Int) := by omega
      have HN1 := Lib.hid hn1; clear hn1
      clear hm0 ht4 hst4 hst2 hd2 q1 q2 q3 hnone l1 g4
      go_wp2
      obtain ⟨hd3, mk3, lv3, t1, t2, t3⟩ := HM0.out.1
      obtain ⟨hd4, mk4, lv4, u1, u2, u3⟩ := HT4.out
      have k7 := cells_of t1 7
      have k8 := cells_of t1 8
      have j7 : w4.cell? ⟨a, 7, none⟩ = some (.int .i64 n1) := cells_of u1 7
      have k7' : (w2.setCell ⟨a, 7, none⟩ (.int .i64 n1)).cell? ⟨a, 7, none⟩ = some (.int .i64 n1) := k7
      have k8' : (w2.setCell ⟨a, 7, none⟩ (.int .i64 n1)).cell? ⟨a, 8, none⟩ = some (.map (some bf)) := k8
      clear hd3 t1 t2 t3 hd4 u1 u2 u3 k7 k8 g7 g8 f7 ca hmd1
      generalize w2.setCell ⟨a, 7, none⟩ (.int .i64 n1) = w3 at *
      have ha3 : a < w3.heap.size := HM0.out.1.disk.here a _ HM0.out.1.disk.role
      go_region
      all_goals
        go_wp2_with fail
        refine (alterCreate_any own4 a bs bf _ s n1 w4 HT4.out (by show D1.laid.length < _; rw [HS.out.2.2.2]; exact hll)).mono ?_
        rintro e w5 ⟨rfl, own5, ht5, hst5⟩
        have HT5 := Lib.hid ht5; have HST5 := Lib.hid hst5
        clear ht5 hst5
        go_wp2
        go_ret
        refine ⟨own5, HST.out.trans (HST2.out.trans (HM0.out.2.trans (HST4.out.trans HST5.out))), .inr (.inr ⟨HE.out.symm, by rw [← HS.out.1]; exact HG.out, rfl, w3.heap.size, ?_⟩)⟩
        have e1 := HT5.out.disk
        rw [← HD1.out]
        have e2 := HN1.out
        subst e2
        exact e1
  · go_wp2
    go_ret
    exact ⟨own, HST.out, .inl ⟨by rw [← HE.out]; exact he, by rw [← HE.out]; rfl, HD1.out ▸ HD.out⟩⟩
end Go.Proofs.YtldkeelgnfegeaaGreat
