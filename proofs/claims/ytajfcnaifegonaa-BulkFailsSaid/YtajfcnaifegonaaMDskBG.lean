/- The disk: maps.Clone; a name is struck out. -/
import Derived.Test.YtajfcnaifegonaaMFlA
import Derived.Test.YtajfcnaifegonaaMMapB
import Derived.Handy
import Derived.BigQuiet
namespace Go.Proofs.Ytajfcnaifegonaa
open Go Go.RowKit Go.By
set_option maxRecDepth 100000 in
theorem redoRemove_any (s : ByteArray) (b : Nat) (m : List (ByteArray × Nat)) (w : World) (hm : Mp.Is w b strV natV m) :
    Calls Try.prog 57 #[.agg #[.string s], .map (some b)] w fun e w' => e = .returned (.tuple #[]) ∧ Mp.Is w' b strV natV (Mp.del m s) ∧ w.grownBy w' (some b) := by
  have hlt := hm.lt
  have hm1 : Mp.Is (w.alloc (.cells #[.string s] 124)) b strV natV m := hm.of_heap (Below.heap_alloc _ _ _ hlt)
  obtain ⟨es, clock, hh⟩ : ∃ es clock, (w.alloc (.cells #[.string s] 124)).heap[b]? = some (.map es clock) := let ⟨⟨es, clock, h, _⟩, _⟩ := hm1; ⟨es, clock, h⟩
  obtain ⟨o, hrun0, hm2⟩ := hm1.delete strK namesT s 0
  have hrun : ∀ ty, (Builtin.delete_ #[67, 9] ty #[.map (some b), .string s]).run Try.prog (w.alloc (.cells #[.string s] 124)) = .ok (.tuple #[]) { (w.alloc (.cells #[.string s] 124)) with heap := (w.alloc (.cells #[.string s] 124)).heap.setIfInBounds b o } := fun _ => hrun0
  have hg := set_grown (o' := o) hh
  generalize ({ (w.alloc (.cells #[.string s] 124)) with heap := (w.alloc (.cells #[.string s] 124)).heap.setIfInBounds b o } : World) = w2 at *
  have fin : Mp.Is w2 b strV natV (Mp.del m s) ∧ w.grownBy w2 (some b) := ⟨hm2, ⟨hg.os, hg.tape, hg.output, Nat.le_trans (by simp) hg.size, fun k hk hn => (hg.block k (by simp; omega) hn).trans (Below.heap_alloc _ _ _ hk)⟩⟩
  have FIN := Lib.hid fin
  clear hm hm1 hm2 hg fin hlt hrun0 hh
  go_enter Try.func57, Try.ntmps57
  go_wp2
  go_returns
  exact ⟨rfl, FIN.out⟩
end Go.Proofs.Ytajfcnaifegonaa
/- The disk: Remove. -/
namespace Go.Proofs.Ytajfcnaifegonaa
open Go Go.RowKit Go.By
theorem row_slice {w : World} {B : Nat} {e : TypeId} {v : Value} {n : Nat} {xs : List Value} (h : w.ownsRow B e 1 v n xs) : ∃ p c, v = .slice p n c := by
  rcases h.2 with ⟨h, h2⟩ | ⟨g, c, _, h, _⟩
  · exact ⟨none, 0, by rw [h, h2]⟩
  · exact ⟨_, c, h⟩
set_option maxRecDepth 100000 in
theorem alterRemove_any (own : Own) (a bs bf : Nat) (D : DiskA) (s : ByteArray) (w : World) (h : Tabled w own a bs bf D) (hl : D.laid.length < 1000000) :
    Calls Try.prog 51 #[.pointer (some ⟨a, 0, none⟩), nameV (.remove s)] w fun e w' => e = .returned (.tuple #[]) ∧ ∃ own', Tabled w' own' a bs bf { D with seen := Mp.del D.seen s, laid := D.laid ++ [.remove s] } ∧ Steps own own' w w' := by
  obtain ⟨hd, mk, lv, h1, h2, h3⟩ := h
  have g4 : w.cell? ⟨a, 4, none⟩ = some (.map (some bs)) := cells_of h1 4
  have hrs : own bs = some .seen ∧ Mp.Is w bs strV natV D.seen := by
    rcases h2.seen with ⟨h, _⟩ | ⟨b, h, hb, hm⟩
    · cases h
    · cases h; exact ⟨hb, hm⟩
  have hlt : a < w.heap.size := hd.here a _ hd.role
  have hne : bs ≠ a := by
    rintro rfl
    rw [hd.role] at hrs; cases hrs.1
  have HD := Lib.hid hd; have H1 := Lib.hid h1; have H2 := Lib.hid h2; have HR := Lib.hid hrs
  clear hd h1 h2 hrs
  obtain ⟨i0, hi, hz0, hz1, hz2⟩ := info_parts nameOpInfo
  have HI := Lib.hid hi; have Z0 := Lib.hid hz0; have Z1 := Lib.hid hz1; have Z2 := Lib.hid hz2
  clear hi hz0 hz1 hz2
  unfold nameV
  go_enter Try.func51, Try.ntmps51
  go_wp2_with fail
  refine (redoRemove_any s bs D.seen w HR.out.2).mono ?_
  rintro e w1 ⟨rfl, hm1, hg1⟩
  have q6 : w1.cell? ⟨a, 6, none⟩ = some lv := by
    rw [World.cell?_of_block (hg1.block a hlt (by simpa using fun h => hne h.symm))]; exact cells_of H1.out 6
  have HM1 := Lib.hid hm1; have HG1 := Lib.hid hg1
  have hlb : ∀ k, lv.ownBlock = some k → k < w.heap.size ∧ k ≠ bs ∧ k ≠ a := fun k hk => ⟨HD.out.here k _ (H2.out.laidR k hk), (by
    rintro rfl; have := H2.out.laidR k hk; rw [HR.out.1] at this; cases this), (by
    rintro rfl; have := H2.out.laidR k hk; rw [HD.out.role] at this; cases this)⟩
  have ho1 := ownsRow_of_heap H2.out.laid (w' := w1) fun k hk => hg1.block k (hlb k hk).1 (by simpa using (hlb k hk).2.1)
  have HO1 := Lib.hid ho1
  have HLB := Lib.hid hlb
  clear hm1 hg1 g4 ho1 hlb
  go_wp2_with (at_builtin; refine wpList_append_own_at _ rfl (.tmp 14) (.tmp 16) 68 rfl 0 140 i0 .nilFunc 1 8 nameOps HI.out Z0.out Z1.out Z2.out rfl (by decide) lv D.laid.length (D.laid.map nameV) rfl (HO1.out.alloc _) ⟨w1.heap.size, 0, none⟩ 1 1 [nameV (.remove s)] rfl rfl ?c1 ?c2 ?c3 ?c4 ?c5 ?c6)
  case c1 =>
    intro j u hu
    match j with
    | 0 => simp at hu; subst hu; exact World.cell?_alloc_new w1 _ _ 0
    | j + 1 => simp at hu
  case c2 => intro u hu; simp at hu; subst hu; rfl
  case c3 => unfold maxLen; omega
  case c4 => omega
  case c5 => omega
  intro v2 w2 hown hgrow _ hat
  obtain ⟨p2, c2, rfl⟩ : ∃ p c, v2 = .slice p (D.laid.length + 1) c := by
    rcases hown.2 with ⟨_, h⟩ | ⟨g, c, _, h, _⟩
    · omega
    · exact ⟨_, c, h⟩
  have z1 := HG1.out.size
  have q6' : w2.cell? ⟨a, 6, none⟩ = some lv := by
    rw [World.cell?_of_block (hgrow.block a (by simp; omega) (fun e => (HLB.out a e.symm).2.2 rfl)), World.cell?_alloc_lt _ _ _ (by simp; omega)]; exact q6
  have f6' : w2.frozen? ⟨a, 6, none⟩ = false := by
    rw [World.frozen?_of_block (hgrow.block a (by simp; omega) (fun e => (HLB.out a e.symm).2.2 rfl)), World.frozen?_alloc_old _ _ _ (by simp; omega), World.frozen?_of_block (HG1.out.block a hlt (by simpa using fun h => hne h.symm))]
    exact free_of H1.out 6
  have fin := laid_done HD.out H1.out H2.out h3 HR.out.1 HM1.out HG1.out hown hgrow (by simpa using hat)
  have FIN := Lib.hid fin
  clear fin hown hgrow hat q6
  go_wp2
  go_returns
  exact ⟨rfl, FIN.out⟩
theorem DiskIs.emptied {own : Own} {a n fb : Nat} {D : DiskA} {w : World} (h : DiskIs w own a D) (hfb : Mp.get D.fm n = some fb) (u : Int) {W : World} (hh : W.heap = ((w.setCell ⟨a, 1, none⟩ (.int .i64 u)).setCell ⟨fb, 0, none⟩ (.slice none 0 0)).heap) (ho : W.os = w.os) (ht : W.tape = w.tape) (hp : W.output = w.output) :
    ∃ D', DiskIs W own a D' ∧ D'.seen = D.seen ∧ D'.laid = D.laid ∧ D'.kept = D.kept ∧ D'.fm = D.fm ∧ Steps own own w W := by
  obtain ⟨hd1, st1⟩ := h.set (D' := { D with used := u }) 1 (.int .i64 u) (fun ms mk mf lv _ hpp => ⟨ms, mk, mf, lv, rfl, parts_numbers hpp rfl rfl rfl rfl rfl⟩)
  generalize hw1 : w.setCell ⟨a, 1, none⟩ (.int .i64 u) = w1 at *
  obtain ⟨ms, mk, mf, lv, h1, h2⟩ := hd1.out
  obtain ⟨⟨sv, kv, lv', cs, f1, f2, f3, f4, f5, f6⟩, hr, hbf⟩ := h2.each n fb hfb
  have s0 := set_heap f1 0 (.slice none 0 0)
  have hfl : fb < w1.heap.size := hd1.here fb _ hr
  have hz : (w1.setCell ⟨fb, 0, none⟩ (.slice none 0 0)).heap.size = w1.heap.size := by simp
  have stay : Stay own own (fun r => r ≠ .file n) w1 (w1.setCell ⟨fb, 0, none⟩ (.slice none 0 0)) := ⟨fun _ _ h => h, fun k r hkr hne => s0.2 k (by rintro rfl; rw [hr] at hkr; cases hkr; exact hne rfl)⟩
  have hfile : FileIs (w1.setCell ⟨fb, 0, none⟩ (.slice none 0 0)) own n fb { D.cont n with seen := [] } :=
    ⟨⟨.slice none 0 0, kv, lv', cs, s0.1, RowV.nil _ _ _, f3.stay stay (by simp), ownsRow_of_heap f4 fun k hkr => stay.block k _ (f5 k hkr) (by simp), f5, f6.stay stay (by simp)⟩, hr,
      fun l hl h0 => (third_cell s0.1 (x := lv') (by simp) hl).trans (hbf lv' (by rw [cell_of_row w1 fb 2 _ _ _ f1]; rfl) h0)⟩
  have hst : FileStep n none own own w1 (w1.setCell ⟨fb, 0, none⟩ (.slice none 0 0)) := by
    refine ⟨⟨rfl, rfl, rfl, by rw [hz]; exact Nat.le_refl _, fun k hkl hn => ?_⟩, fun _ _ => rfl, fun _ _ h => h, fun k r hkr => .inl hkr⟩
    exact s0.2 k (by rintro rfl; exact hn (.inl ⟨_, hr, .inl rfl⟩))
  have hd2 := hd1.filed (F := { D.cont n with seen := [] }) hfb hfile hst (by simp)
  have st2 := st1.trans hst.steps
  have hW : Below (w1.setCell ⟨fb, 0, none⟩ (.slice none 0 0)).heap.size (w1.setCell ⟨fb, 0, none⟩ (.slice none 0 0)) W := ⟨ho.trans st2.os.symm, ht.trans st2.tape.symm, hp.trans st2.output.symm, by rw [hh]; exact Nat.le_refl _, fun k _ => by rw [hh]⟩
  exact ⟨_, hd2.beside (o1 := fun _ => none) (o2 := fun _ => none) (Steps.of_below hW) (fun _ _ _ => .inl rfl), rfl, rfl, rfl, rfl, st2.trans (Steps.of_below hW)⟩
set_option maxRecDepth 100000 in
theorem empty_any (own : Own) (a n fb : Nat) (D : DiskA) (s : ByteArray) (w : World) (h : DiskIs w own a D) (hg : Mp.get D.seen s = some n) (hfb : Mp.get D.fm n = some fb) (hu : -4611686018427387904 ≤ D.used ∧ D.used ≤ 4611686018427387904) (hsl : (D.cont n).seen.length ≤ 1099511627776) :
    Calls Try.prog 56 #[.pointer (some ⟨a, 0, none⟩), .string s] w fun e w' => e = .returned (.tuple #[]) ∧ ∃ D', DiskIs w' own a D' ∧ D'.seen = D.seen ∧ D'.laid = D.laid ∧ D'.kept = D.kept ∧ D'.fm = D.fm ∧ Steps own own w w' := by
  have HFIN := Lib.hid (fun (W : World) => h.emptied hfb (D.used - ((D.cont n).seen.length : Int)) (W := W))
  have hafb : a ≠ fb := by
    rintro rfl
    obtain ⟨ms, mk, mf, lv, _, h2⟩ := h.out
    have := (h2.each n a hfb).role
    rw [h.role] at this; cases this
  obtain ⟨ms, mk, mf, lv, h1, h2⟩ := h.out
  have hfile := h2.each n fb hfb
  obtain ⟨⟨sv, kv, lv', cs, f1, f2, f3, f4, f5, f6⟩, hr, hbf⟩ := hfile
  obtain ⟨p, c, rfl⟩ := row_slice f2.owns
  have l1 := (h2.seen.look strK namesT (zeroInt w) s).1
  have l2 := (h2.files.look natK filesT (zeroFile w) n).2
  rw [hg] at l1
  rw [hfb] at l2
  unfold strV at l1
  simp only [Option.map_some, Option.getD_some, Option.isSome_some, natV, ptrV] at l1 l2
  have g1 := cells_of h1 1
  have g4 := cells_of h1 4
  have g8 := cells_of h1 8
  have q0 := cells_of f1 0
  unfold diskCells at g1 g4 g8
  simp only [List.getElem?_toArray, List.getElem?_cons_zero, List.getElem?_cons_succ] at g1 g4 g8 q0
  have fz := free_of h1
  have fz2 := free_of f1
  have hw : IntKind.i64.wrap (D.used - ((D.cont n).seen.length : Int)) = D.used - ((D.cont n).seen.length : Int) := IntWalk.i64_in _ (by omega)
  have H := Lib.hid h; have H1 := Lib.hid h1; have H2 := Lib.hid h2; have F1 := Lib.hid f1
  clear h h1 h2 f1 f2 f3 f4 f5 f6 hbf hr hg hfb
  go_enter Try.func56, Try.ntmps56
  go_wp2
  go_region
  go_wp2
  go_returns
  exact ⟨rfl, HFIN.out _ rfl rfl rfl rfl⟩
set_option maxRecDepth 100000 in
theorem remove_any (own : Own) (a : Nat) (D : DiskA) (s : ByteArray) (w : World) (h : DiskIs w own a D) (hk : D.Ok) (ho : D.ops < 4611686018427387904) (hl : D.left < 4611686018427387904) (hs : s.size ≤ maxLen)
    (hu : -4611686018427387904 ≤ D.used ∧ D.used ≤ 4611686018427387904) (hsl : ∀ n, (D.cont n).seen.length ≤ 1099511627776) (hll : D.laid.length < 1000000) :
    Calls Try.prog 30 #[.pointer (some ⟨a, 0, none⟩), .string s] w fun e w' => (∃ x, e = .returned (.int .i64 x)) ∧ ∃ own', Steps own own' w w' := by
  have hfind := find_any own a D s true w h hk ho hl hs
  rw [Bool.true_and] at hfind
  obtain ⟨D1, hD1⟩ : ∃ D1, D1 = (D.begin (mayName s)).1 := ⟨_, rfl⟩
  obtain ⟨err, herr⟩ : ∃ err, err = (D.begin (mayName s)).2 := ⟨_, rfl⟩
  have hsame := D.begin_same (mayName s)
  rw [← hD1] at hsame
  obtain ⟨_, _, e3, _, e5, _, e7, _⟩ := hsame
  rw [← hD1, ← herr] at hfind
  rw [← e7] at hu
  rw [← e5] at hsl
  rw [← e3] at hll
  have HF := Lib.hid hfind; have HU := Lib.hid hu; have HSL := Lib.hid hsl; have HLL := Lib.hid hll
  clear hfind h hk ho hl hD1 herr hu hsl hll e3 e5 e7
  go_enter Try.func30, Try.ntmps30
  go_wp2_with fail
  refine HF.out.mono ?_
  rintro e w1 ⟨hd, hst, ⟨he, rfl⟩ | ⟨rfl, hg, rfl⟩ | ⟨rfl, n, fb, hg, hfb, rfl⟩⟩
  · have HST := Lib.hid hst; clear hd hst
    go_wp2
    go_ret
    exact ⟨⟨_, rfl⟩, own, HST.out⟩
  · have HST := Lib.hid hst; clear hd hst hg
    go_wp2
    go_ret
    exact ⟨⟨_, rfl⟩, own, HST.out⟩
  · have HE := Lib.hid (empty_any own a n fb D1 s w1 hd hg hfb HU.out (HSL.out n))
    have HST := Lib.hid hst; have HG := Lib.hid hg
    clear hd hst hg hfb
    go_wp2_with fail
    refine HE.out.mono ?_
    rintro e w2 ⟨rfl, D2, hd2, e1, e2, _, _, hs2⟩
    obtain ⟨ms, mk, mf, lv, h1, h2⟩ := hd2.out
    have hne : mk ≠ .map none := fun e => by
      have := (h2.bare e).1
      rw [e1] at this
      have hg := HG.out
      rw [this] at hg; cases hg
    have hf := h2.full hne
    obtain ⟨bs, rfl⟩ : ∃ bs, ms = .map (some bs) := by
      rcases h2.seen with ⟨e, _⟩ | ⟨b, e, _⟩
      · exact absurd e hf.1
      · exact ⟨b, e⟩
    obtain ⟨bf, rfl⟩ : ∃ bf, mf = .map (some bf) := by
      rcases h2.files with ⟨e, _⟩ | ⟨b, e, _⟩
      · exact absurd e hf.2
      · exact ⟨b, e⟩
    have HA := Lib.hid (alterRemove_any own a bs bf D2 s w2 ⟨hd2, mk, lv, h1, h2, hne⟩ (by rw [e2]; exact HLL.out))
    have ST2 := Lib.hid (HST.out.trans hs2)
    clear hd2 h1 h2 hne hf hs2
    unfold nameV at HA
    go_wp2_with fail
    refine HA.out.mono ?_
    rintro e w3 ⟨rfl, own3, _, hs3⟩
    have ST3 := Lib.hid (ST2.out.trans hs3)
    clear hs3
    go_wp2
    go_ret
    exact ⟨⟨_, rfl⟩, own3, ST3.out⟩
end Go.Proofs.Ytajfcnaifegonaa
