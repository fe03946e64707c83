/- The disk: Rename, to a name that is free. -/
import Derived.Test.YtldkeelgnfegeaaGreatMDskBG

namespace Go.Proofs.YtldkeelgnfegeaaGreat
open Go Go.RowKit Go.By

set_option maxRecDepth 100000 in
theorem redoRename_any (s t : ByteArray) (n b : Nat) (m : List (ByteArray × Nat)) (w : World) (hm : Mp.Is w b strV natV m) (hg0 : Mp.get m s = some n) :
    Calls Tryz.prog 63 #[.agg #[.string s, .string t], .map (some b)] w fun e w' => e = .returned (.tuple #[]) ∧ Mp.Is w' b strV natV (Mp.put (Mp.del m s) t n) ∧ w.grownBy w' (some b) := by
  have hlt := hm.lt
  obtain ⟨W, hW⟩ : ∃ W, W = w.alloc (.cells #[.string s, .string t] 119) := ⟨_, rfl⟩
  have hm1 : Mp.Is W b strV natV m := by rw [hW]; exact hm.of_heap (Below.heap_alloc _ _ _ hlt)
  have hWs : W.heap.size = w.heap.size + 1 := by rw [hW]; simp
  have hW0 : W.heap[w.heap.size]? = some (.cells #[.string s, .string t] 119 (0, 0)) := by rw [hW]; exact heap_alloc_new w _
  have hWb : ∀ k, k < w.heap.size → W.heap[k]? = w.heap[k]? := fun k hk => by rw [hW]; exact Below.heap_alloc _ _ _ hk
  have hWo : W.os = w.os ∧ W.tape = w.tape ∧ W.output = w.output := by rw [hW]; exact ⟨rfl, rfl, rfl⟩
  have hl := (hm1.look strK namesT (zeroInt W) s).2
  rw [hg0] at hl
  simp only [Option.map_some, Option.getD_some] at hl
  obtain ⟨es, clock, hh⟩ : ∃ es clock, W.heap[b]? = some (.map es clock) := let ⟨⟨es, clock, h, _⟩, _⟩ := hm1; ⟨es, clock, h⟩
  obtain ⟨o, hrun0, hm2⟩ := hm1.delete strK namesT s 0
  have hrun : ∀ ty, (Builtin.delete_ #[51, 9] ty #[.map (some b), .string s]).run Tryz.prog W = .ok (.tuple #[]) { W with heap := W.heap.setIfInBounds b o } := fun _ => hrun0
  have hg := set_grown (o' := o) hh
  generalize ({ W with heap := W.heap.setIfInBounds b o } : World) = w2 at *
  obtain ⟨w3, hrun2, hm3, hg3, _⟩ := update_world hm2 strK namesT t n
  have c0 : W.cell? ⟨w.heap.size, 0, none⟩ = some (.string s) := cells_of hW0 0
  have hne : w.heap.size ≠ b := by omega
  have hb2 : w2.heap[w.heap.size]? = W.heap[w.heap.size]? := hg.block _ (by omega) (by simpa using hne)
  have d0 : w2.cell? ⟨w.heap.size, 0, none⟩ = some (.string s) := (World.cell?_of_block hb2).trans c0
  have d1 : w2.cell? ⟨w.heap.size, 1, none⟩ = some (.string t) := (World.cell?_of_block hb2).trans (cells_of hW0 1)
  have fin : Mp.Is w3 b strV natV (Mp.put (Mp.del m s) t n) ∧ w.grownBy w3 (some b) := ⟨hm3, ⟨hg3.os.trans (hg.os.trans hWo.1), hg3.tape.trans (hg.tape.trans hWo.2.1), hg3.output.trans (hg.output.trans hWo.2.2), by have := hg.size; have := hg3.size; omega, fun k hk hn =>
    (hg3.block k (by have := hg.size; omega) hn).trans ((hg.block k (by omega) hn).trans (hWb k hk))⟩⟩
  have FIN := Lib.hid fin
  have HW := Lib.hid hW
  unfold strV natV at hrun2 hl
  clear hm hm1 hm2 hm3 hg hg3 fin hlt hrun0 hh hWs hW0 hWb hWo hb2 hne hW
  go_enter Tryz.func63, Tryz.ntmps63
  go_wp2_with fail
  rw [← HW.out, hl]
  go_wp2
  go_returns
  exact ⟨rfl, FIN.out⟩

set_option maxRecDepth 100000 in
theorem alterRename_any (own : Own) (a bs bf : Nat) (D : DiskA) (s t : ByteArray) (n : Nat) (w : World) (h : Tabled w own a bs bf D) (hg0 : Mp.get D.seen s = some n) (hl : D.laid.length < 1000000) :
    Calls Tryz.prog 45 #[.pointer (some ⟨a, 0, none⟩), nameV (.rename s t)] w fun e w' => e = .returned (.tuple #[]) ∧ ∃ own', Tabled w' own' a bs bf { D with seen := Mp.put (Mp.del D.seen s) t n, laid := D.laid ++ [.rename s t] } ∧ Steps own own' w w' := by
  obtain ⟨hd, mk, lv, h1, h2, h3⟩ := h
  have g4 : w.cell? ⟨a, 4, none⟩ = some (.map (some bs)) := cells_of h1 4
  have hrs : own bs = some .seen ∧ Mp.Is w bs strV natV D.seen := by
    rcases h2.seen with ⟨h, _⟩ | ⟨b, h, hb, hm⟩
    · cases h
    · cases h; exact ⟨hb, hm⟩
  have hlt : a < w.heap.size := hd.here a _ hd.role
  have hne : bs ≠ a := by
    rintro rfl
    rw [hd.role] at hrs; cases hrs.1
  have HG0 := Lib.hid hg0
  clear hg0
  have HD := Lib.hid hd; have H1 := Lib.hid h1; have H2 := Lib.hid h2; have HR := Lib.hid hrs
  clear hd h1 h2 hrs
  obtain ⟨i0, hi, hz0, hz1, hz2⟩ := info_parts nameOpInfo
  have HI := Lib.hid hi; have Z0 := Lib.hid hz0; have Z1 := Lib.hid hz1; have Z2 := Lib.hid hz2
  clear hi hz0 hz1 hz2
  unfold nameV
  go_enter Tryz.func45, Tryz.ntmps45
  go_wp2_with fail
  refine (redoRename_any s t n bs D.seen w HR.out.2 HG0.out).mono ?_
  rintro e w1 ⟨rfl, hm1, hg1⟩
  have q6 : w1.cell? ⟨a, 6, none⟩ = some lv := by
    rw [World.cell?_of_block (hg1.block a hlt (by simpa using fun h => hne h.symm))]; exact cells_of H1.out 6
  have HM1 := Lib.hid hm1; have HG1 := Lib.hid hg1
  have hlb : ∀ k, lv.ownBlock = some k → k < w.heap.size ∧ k ≠ bs ∧ k ≠ a := fun k hk => ⟨HD.out.here k _ (H2.out.laidR k hk), (by
    rintro rfl; have := H2.out.laidR k hk; rw [HR.out.1] at this; cases this), (by
    rintro rfl; have := H2.out.laidR k hk; rw [HD.out.role] at this; cases this)⟩
  have ho1 := ownsRow_of_heap H2.out.laid (w' := w1) fun k hk => hg1.block k (hlb k hk).1 (by simpa using (hlb k hk).2.1)
  have HO1 := Lib.hid ho1
  have HLB := Lib.hid hlb
  clear hm1 hg1 g4 ho1 hlb
  go_wp2_with (at_builtin; refine wpList_append_own_at _ rfl (.tmp 14) (.tmp 16) 52 rfl 0 109 i0 .nilFunc 1 8 nameOps HI.out Z0.out Z1.out Z2.out rfl (by decide) lv D.laid.length (D.laid.map nameV) rfl (HO1.out.alloc _) ⟨w1.heap.size, 0, none⟩ 1 1 [nameV (.rename s t)] rfl rfl ?c1 ?c2 ?c3 ?c4 ?c5 ?c6)
  case c1 =>
    intro j u hu
    match j with
    | 0 => simp at hu; subst hu; exact World.cell?_alloc_new w1 _ _ 0
    | j + 1 => simp at hu
  case c2 => intro u hu; simp at hu; subst hu; rfl
  case c3 => unfold maxLen; omega
  case c4 => omega
  case c5 => omega
  intro v2 w2 hown hgrow _ hat
  obtain ⟨p2, c2, rfl⟩ : ∃ p c, v2 = .slice p (D.laid.length + 1) c := by
    rcases hown.2 with ⟨_, h⟩ | ⟨g, c, _, h, _⟩
    · omega
    · exact ⟨_, c, h⟩
  have z1 := HG1.out.size
  have q6' : w2.cell? ⟨a, 6, none⟩ = some lv := by
    rw [World.cell?_of_block (hgrow.block a (by simp; omega) (fun e => (HLB.out a e.symm).2.2 rfl)), World.cell?_alloc_lt _ _ _ (by simp; omega)]; exact q6
  have f6' : w2.frozen? ⟨a, 6, none⟩ = false := by
    rw [World.frozen?_of_block (hgrow.block a (by simp; omega) (fun e => (HLB.out a e.symm).2.2 rfl)), World.frozen?_alloc_old _ _ _ (by simp; omega), World.frozen?_of_block (HG1.out.block a hlt (by simpa using fun h => hne h.symm))]
    exact free_of H1.out 6
  have fin := laid_done HD.out H1.out H2.out h3 HR.out.1 HM1.out HG1.out hown hgrow (by simpa using hat)
  have FIN := Lib.hid fin
  clear fin hown hgrow hat q6
  go_wp2
  go_returns
  exact ⟨rfl, FIN.out⟩

set_option maxRecDepth 100000 in
theorem emptyNone_any (own : Own) (a : Nat) (D : DiskA) (s : ByteArray) (w : World) (h : DiskIs w own a D) (hg : Mp.get D.seen s = none) :
    Calls Tryz.prog 52 #[.pointer (some ⟨a, 0, none⟩), .string s] w fun e w' => e = .returned (.tuple #[]) ∧ w = w' := by
  obtain ⟨ms, mk, mf, lv, h1, h2⟩ := h.out
  have l1 := (h2.seen.look strK namesT (zeroInt w) s).1
  rw [hg] at l1
  unfold strV at l1
  simp only [Option.map_none, Option.getD_none, Option.isSome_none] at l1
  have g4 := cells_of h1 4
  unfold diskCells at g4
  simp only [List.getElem?_toArray, List.getElem?_cons_zero, List.getElem?_cons_succ] at g4
  clear h h1 h2 hg
  go_enter Tryz.func52, Tryz.ntmps52
  go_wp2
  go_returns
  exact ⟨rfl, rfl⟩

set_option maxRecDepth 100000 in
theorem rename_any (own : Own) (a n : Nat) (D : DiskA) (s t : ByteArray) (w : World) (h : DiskIs w own a D) (hk : D.Ok) (ho : D.ops < 4611686018427387904) (hl : D.left < 4611686018427387904) (hs : s.size ≤ maxLen) (hts : t.size ≤ maxLen) (hll : D.laid.length < 1000000)
    (hmay : mayName s = true) (hmay2 : mayName t = true) (hl1 : D.left ≠ 1) (hne : (s.toList == t.toList) = false) (hg : Mp.get D.seen s = some n) (hg2 : Mp.get D.seen t = none) :
    Calls Tryz.prog 38 #[.pointer (some ⟨a, 0, none⟩), .string s, .string t] w fun e w' => e = .returned (.int .i64 0) ∧ ∃ own', Steps own own' w w' ∧ DiskIs w' own' a { (D.begin true).1 with seen := Mp.put (Mp.del D.seen s) t n, laid := D.laid ++ [.rename s t] } := by
  have hfind := find_any own a D s (mayName t) w h hk ho hl hs
  rw [hmay, hmay2, Bool.true_and] at hfind
  have hsame := D.begin_same true
  have herr : (D.begin true).2 = 0 := by unfold DiskA.begin; rw [if_neg hl1]; rfl
  obtain ⟨D1, hD1⟩ : ∃ D1, D1 = (D.begin true).1 := ⟨_, rfl⟩
  rw [← hD1] at hsame hfind ⊢
  rw [herr] at hfind
  obtain ⟨e1, _, e3, _⟩ := hsame
  rw [← e1] at hg hg2 ⊢
  rw [← e3] at hll ⊢
  have hmn := fun w0 => mayName_any t w0 hts
  rw [hmay2] at hmn
  have HMN := Lib.hid hmn
  have HF := Lib.hid hfind; have HG := Lib.hid hg; have HG2 := Lib.hid hg2; have HLL := Lib.hid hll
  clear hfind h hk ho hl hD1 herr hg hg2 hll e1 e3 hmay hmay2 hmn
  go_enter Tryz.func38, Tryz.ntmps38
  go_wp2_with (go_at_call 43; refine (HMN.out _).mono ?_; rintro e w1 ⟨rfl, rfl⟩)
  refine HF.out.mono ?_
  rintro e w1 ⟨hd, hst, ⟨he, rfl⟩ | ⟨_, hgn, rfl⟩ | ⟨_, n', fb, hgn, hfb, rfl⟩⟩
  · exact absurd rfl he
  · rw [HG.out] at hgn; cases hgn
  · have HE := Lib.hid (emptyNone_any own a D1 t w1 hd HG2.out)
    obtain ⟨ms, mk, mf, lv, h1, h2⟩ := hd.out
    have hmk : mk ≠ .map none := fun e => by
      have := (h2.bare e).1
      have hg := HG.out
      rw [this] at hg; cases hg
    have hf := h2.full hmk
    obtain ⟨bs, rfl⟩ : ∃ bs, ms = .map (some bs) := by
      rcases h2.seen with ⟨e, _⟩ | ⟨b, e, _⟩
      · exact absurd e hf.1
      · exact ⟨b, e⟩
    obtain ⟨bf, rfl⟩ : ∃ bf, mf = .map (some bf) := by
      rcases h2.files with ⟨e, _⟩ | ⟨b, e, _⟩
      · exact absurd e hf.2
      · exact ⟨b, e⟩
    have HA := Lib.hid (alterRename_any own a bs bf D1 s t n w1 ⟨hd, mk, lv, h1, h2, hmk⟩ HG.out HLL.out)
    have HST := Lib.hid hst
    clear hd h1 h2 hmk hf hst hgn hfb
    unfold nameV at HA
    go_wp2_with fail
    refine HE.out.mono ?_
    rintro e w2 ⟨rfl, rfl⟩
    go_wp2_with fail
    refine HA.out.mono ?_
    rintro e w3 ⟨rfl, own3, htab, hs3⟩
    have FIN : Hid (∃ own', Steps own own' w w3 ∧ DiskIs w3 own' a { D1 with seen := Mp.put (Mp.del D1.seen s) t n, laid := D1.laid ++ [.rename s t] }) := ⟨own3, HST.out.trans hs3, htab.disk⟩
    clear htab hs3
    go_wp2
    go_ret
    exact ⟨rfl, FIN.out⟩
end Go.Proofs.YtldkeelgnfegeaaGreat
