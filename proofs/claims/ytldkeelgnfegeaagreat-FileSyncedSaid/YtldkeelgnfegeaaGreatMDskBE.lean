/- The disk: Crash. -/
import Derived.Test.YtldkeelgnfegeaaGreatMDskBD
import Derived.Test.YtldkeelgnfegeaaGreatMDskS

namespace Go.Proofs.YtldkeelgnfegeaaGreat
open Go Go.RowKit Go.By

/-- What stands behind some files of a crash. -/
structure Crashing (w5 wr : World) (own5 : Own) (a lb : Nat) (bv : Value) (bits : List Nat) (x : DiskA × Nat) : Prop where
  out : ∃ own', DiskIs wr own' a x.1 ∧ StepsL lb own5 own' w5 wr
  lots : LotsIs lb bv bits x.2 wr
  ok : x.1.Ok

theorem Crashing.drew {w5 wr : World} {own5 : Own} {a lb : Nat} {bv : Value} {bits : List Nat} {x : DiskA × Nat} (h : Crashing w5 wr own5 a lb bv bits x) : Crashing w5 wr.drew own5 a lb bv bits x := by
  obtain ⟨own', h1, h2⟩ := h.out
  exact ⟨⟨own', h1.same rfl, h2.trans (show StepsL lb own' own' wr wr.drew from ⟨rfl, rfl, rfl, Nat.le_refl _, fun _ _ _ _ => rfl, fun _ _ => rfl⟩)⟩, (lots_lasts lb bv bits).stay _ wr _ h.lots (fun _ _ => rfl), h.ok⟩

/-- How Crash ends, as lists. -/
def crashed (bits : List Nat) (D : DiskA) (fm' : List (Nat × Nat)) : DiskA :=
  let D2 := ({ D with left := 0 } : DiskA).settled (firstOf bits D.laid.length) fm'
  (crashFiles bits (namesOf D2.seen) ({ D2 with used := 0 }, 0)).1

set_option maxRecDepth 100000 in
set_option maxHeartbeats 1000000 in
theorem crash_any (own : Own) (a : Nat) (D : DiskA) (bv : Value) (bits : List Nat) (w : World) (h : DiskIs w own a D) (hok : D.Ok) (hb : Bytes w bv bits) (hbo : bits ≠ [] → ∀ k, bv.ownBlock = some k → own k = none)
    (hlen : D.laid.length < 1000000) (ht : ∀ o ∈ D.laid, o.told = true) (hf : CrashFits bits D) (hsn : (redoNames (D.laid.take (firstOf bits D.laid.length)) D.kept).length ≤ 1000000) (hss : ∀ p ∈ redoNames (D.laid.take (firstOf bits D.laid.length)) D.kept, p.1.size ≤ maxLen) :
    Calls Tryz.prog 12 #[.pointer (some ⟨a, 0, none⟩), bv] w fun e w' => e = .returned (.tuple #[]) ∧ ∃ own' fm', Steps own own' w w' ∧ DiskIs w' own' a (crashed bits D fm') ∧ (crashed bits D fm').Ok ∧ Kept D.fm (redoNames (D.laid.take (firstOf bits D.laid.length)) D.kept) fm' := by
  obtain ⟨pb, cb, hbv⟩ : ∃ p c, bv = .slice p bits.length c := let ⟨p, c, h, _⟩ := hb.any; ⟨p, c, h⟩
  have s3 : DiskIs (w.setCell ⟨a, 3, none⟩ (.int .i64 0)) own a { D with left := 0 } ∧ Steps own own w (w.setCell ⟨a, 3, none⟩ (.int .i64 0)) := h.setLeft 0
  obtain ⟨ms, mk, mf, lv, h1, h2⟩ := h.out
  have c3 : w.cell? ⟨a, 3, none⟩ = some (.int .i64 D.left) := cells_of h1 3
  have f3 := free_of h1 3
  have hlt : a < w.heap.size := h.here a _ h.role
  have hne : ∀ w : World, (binOp .eql 25 (.pointer (some ⟨a, 0, none⟩)) (.pointer none)).run Tryz.prog w = .ok (.bool false) w := fun w => by kernel_rfl
  obtain ⟨pl, cl, hlv⟩ : ∃ p c, lv = .slice p D.laid.length c := by
    rcases h2.laid.2 with ⟨h, h0⟩ | ⟨g, c, _, h, _⟩
    · exact ⟨none, 0, by rw [h, h0]⟩
    · exact ⟨_, c, h⟩
  subst hlv
  subst hbv
  have c6 : w.cell? ⟨a, 6, none⟩ = some (.slice pl D.laid.length cl) := cells_of h1 6
  have hb1 : Bytes (w.setCell ⟨a, 3, none⟩ (.int .i64 0)) (.slice pb bits.length cb) bits := Bytes.stepsE hb s3.2 (fun hne k hk => .inl (hbo hne k hk))
  have S3 := Lib.hid s3; have H := Lib.hid h; have HOK := Lib.hid hok; have HB := Lib.hid hb; have HBO := Lib.hid hbo; have HB1 := Lib.hid hb1; have HT := Lib.hid ht; have HF := Lib.hid hf; have HSN := Lib.hid hsn; have HSS := Lib.hid hss
  clear s3 h hok hb hbo hb1 ht hf hsn hss h1 h2
  go_enter Tryz.func12, Tryz.ntmps12
  go_wp2_with fail
  refine (firstOf_any _ bits D.laid.length _ HB1.out (by omega)).mono ?_
  rintro e w1 ⟨rfl, rfl⟩
  have hset := settle_any own a (firstOf bits D.laid.length) { D with left := 0 } _ S3.out.1 ⟨HOK.out.seenIn, HOK.out.keptIn, HOK.out.laidIn, HOK.out.made⟩ (firstOf_le _ _) hlen HT.out
  have HSET := Lib.hid hset
  clear hset c3 f3 c6
  go_wp2_with fail
  refine HSET.out.mono ?_
  rintro e w2 ⟨rfl, own2, fm', hs2, hd2, hk2⟩
  have hin := redo_in (D := { D with left := 0 }) ⟨HOK.out.seenIn, HOK.out.keptIn, HOK.out.laidIn, HOK.out.made⟩ (by
    obtain ⟨_, _, _, _, _, h2⟩ := H.out.out
    exact h2.kept.nodup) HT.out (firstOf bits D.laid.length)
  have hok2 := DiskA.settled_ok (D := { D with left := 0 }) ⟨HOK.out.seenIn, HOK.out.keptIn, HOK.out.laidIn, HOK.out.made⟩ hk2 hin
  obtain ⟨D2, hD2⟩ : ∃ D2, D2 = ({ D with left := 0 } : DiskA).settled (firstOf bits D.laid.length) fm' := ⟨_, rfl⟩
  have hD2s : D2.seen = redoNames (D.laid.take (firstOf bits D.laid.length)) D.kept := by rw [hD2]; rfl
  have hD2c : D2.cont = D.cont := by rw [hD2]; rfl
  rw [← hD2] at hd2 hok2
  have s1 : DiskIs (w2.setCell ⟨a, 1, none⟩ (.int .i64 0)) own2 a { D2 with used := 0 } ∧ Steps own2 own2 w2 (w2.setCell ⟨a, 1, none⟩ (.int .i64 0)) := hd2.setUsed 0
  obtain ⟨ms2, mk2, mf2, lv2, k1, _⟩ := hd2.out
  have q1 : w2.cell? ⟨a, 1, none⟩ = some (.int .i64 D2.used) := cells_of k1 1
  have g1 := free_of k1 1
  have hsw1 := S3.out.2.trans hs2
  have HH2 := Lib.hid hd2.here
  have hsz2 : w.heap.size ≤ w2.heap.size := by have := hs2.size; simpa using this
  have HSZ2 := Lib.hid hsz2
  clear hsz2
  -- the lots
  obtain ⟨w4, hw4⟩ : ∃ w4, w4 = (w2.setCell ⟨a, 1, none⟩ (.int .i64 0)).alloc (.cells #[.slice pb bits.length cb, .int .i64 0] 69) := ⟨_, rfl⟩
  have hb4 : Below (w2.setCell ⟨a, 1, none⟩ (.int .i64 0)).heap.size (w2.setCell ⟨a, 1, none⟩ (.int .i64 0)) w4 := by rw [hw4]; exact (Below.refl _ _).alloc (Nat.le_refl _) _
  have hs4 : Steps own2 own2 (w2.setCell ⟨a, 1, none⟩ (.int .i64 0)) w4 := Steps.of_below hb4
  have hd4 : DiskIs w4 own2 a { D2 with used := 0 } := s1.1.beside (o1 := fun _ => none) (o2 := fun _ => none) ⟨hb4.os, hb4.tape, hb4.output, hb4.size, fun k hk _ => hb4.block k hk, fun _ _ => rfl⟩ (fun _ _ _ => .inl rfl)
  have hlb4 : w4.heap[w2.heap.size]? = some (.cells #[.slice pb bits.length cb, .int .i64 0] 69 (0, 0)) := by
    rw [hw4]
    have := heap_alloc_new (w2.setCell ⟨a, 1, none⟩ (.int .i64 0)) (.cells #[.slice pb bits.length cb, .int .i64 0] 69)
    simpa using this
  have hst4 : Steps own own2 w w4 := (hsw1.trans s1.2).trans hs4
  have hby4 : Bytes w4 (.slice pb bits.length cb) bits := Bytes.stepsE HB.out hst4 (fun hne k hk => .inl (HBO.out hne k hk))
  have hl := list_any own2 a { D2 with used := 0 } w4 hd4 (by show ∀ p ∈ D2.seen, _; rw [hD2s]; exact HSS.out) (by show D2.seen.length ≤ _; rw [hD2s]; exact HSN.out)
  have HL := Lib.hid hl; have HD4 := Lib.hid hd4; have HST4 := Lib.hid hst4; have HBY4 := Lib.hid hby4; have HLB4 := Lib.hid hlb4; have HOK2 := Lib.hid hok2; have HK2 := Lib.hid hk2; have HD2 := Lib.hid hD2; have HD2S := Lib.hid hD2s; have HD2C := Lib.hid hD2c
  have HW4 := Lib.hid hw4
  clear hl hd4 hst4 hby4 hlb4 hok2 hk2 hD2 hD2s hD2c hs4 hb4 s1 hsw1 hin hd2 hs2 k1 hw4
  go_wp2_with fail
  rw [← HW4.out]
  refine HL.out.mono ?_
  rintro e w5 ⟨v, rfl, hown, hnil, hb5⟩
  -- the loop begins
  obtain ⟨pv, cv, hv⟩ : ∃ p c, v = .slice p D2.seen.length c := by
    rcases hown.2 with ⟨h, h0⟩ | ⟨g, c, _, h, _⟩
    · exact ⟨none, 0, by rw [h, h0]⟩
    · exact ⟨_, c, h⟩
  subst hv
  have hd5 : DiskIs w5 own2 a { D2 with used := 0 } := HD4.out.beside (o1 := fun _ => none) (o2 := fun _ => none) ⟨hb5.os, hb5.tape, hb5.output, hb5.size, fun k hk _ => hb5.block k hk, fun _ _ => rfl⟩ (fun _ _ _ => .inl rfl)
  have hs5 : Steps own own2 w w5 := HST4.out.trans (Steps.of_below hb5)
  have hlbl : w2.heap.size < w4.heap.size := (Array.getElem?_eq_some_iff.1 HLB4.out).1
  have hw2 : w.heap.size ≤ w2.heap.size := HSZ2.out
  have hlot : LotsIs w2.heap.size (.slice pb bits.length cb) bits 0 w5 := by
    refine ⟨(hb5.block _ hlbl).trans HLB4.out, Bytes.stepsE HB.out hs5 (fun hne k hk => .inl (HBO.out hne k hk)), fun hne he => ?_⟩
    rcases HB.out.out with ⟨_, h1⟩ | ⟨_, _, h1⟩ | ⟨b, off, cap, h1, h2, hc⟩
    · exact hne h1
    · exact hne h1
    · rw [h1] at he; cases he
      have hl : 0 < bits.length := by cases bits with
        | nil => exact absurd rfl hne
        | cons x xs => simp
      have := block_lt_of_cell (hc 0 hl)
      simp at this; omega
  have hcr : Crashing w5 w5 own2 a w2.heap.size (.slice pb bits.length cb) bits (crashFiles bits ((namesOf D2.seen).take 0) ({ D2 with used := 0 }, 0)) := ⟨⟨own2, hd5, StepsL.refl _ _ _⟩, hlot, ⟨HOK2.out.seenIn, HOK2.out.keptIn, HOK2.out.laidIn, HOK2.out.made⟩⟩
  have hspot : ∀ k s, (namesOf D2.seen)[k]? = some s → ∃ g, pv = some ⟨g, 0, none⟩ ∧ g < w5.heap.size ∧ w4.heap.size ≤ g ∧ w5.cell? ⟨g, k, none⟩ = some (.string s) := by
    intro k s hks
    rw [namesOf_cells] at hown
    rcases hown.2 with ⟨_, h0⟩ | ⟨g, c, cur, h, hg1, hg2, _⟩
    · have : k < (namesOf D2.seen).length := (List.getElem?_eq_some_iff.1 hks).1
      rw [namesOf_length] at this
      have h0' : D2.seen.length = 0 := h0
      omega
    · simp only [Value.slice.injEq] at h
      obtain ⟨rfl, _, _⟩ := h
      have := hown.cells (g := g) rfl k (.string s) (by rw [List.getElem?_map, hks]; rfl)
      rw [Addr.add_lit, Nat.zero_add] at this
      exact ⟨g, rfl, (Array.getElem?_eq_some_iff.1 hg2).1, hg1, this⟩
  have hnl : (namesOf D2.seen).length = D2.seen.length := namesOf_length _
  have hsl : D2.seen.length ≤ 1000000 := by rw [HD2S.out]; exact HSN.out
  have hfit : CrashFits bits ({ D2 with used := 0 } : DiskA) := ⟨by show ∀ n, (D2.cont n).laid.length ≤ _; rw [HD2C.out]; exact HF.out.laid, by show ∀ n i, (redoOps (drawBit bits) (D2.cont n).laid i (D2.cont n).kept).1.length ≤ _; rw [HD2C.out]; exact HF.out.long⟩
  have HCL5 : Hid (∃ o, w5.heap[w2.heap.size]? = some o) := ⟨_, hlot.heap⟩
  have HS5 := Lib.hid hs5; have HCR := Lib.hid hcr; have HSP := Lib.hid hspot; have HNL := Lib.hid hnl; have HSL := Lib.hid hsl; have HFIT := Lib.hid hfit; have HW2 := Lib.hid hw2; have HLBL := Lib.hid hlbl; have HD5 := Lib.hid hd5
  clear hown hnil hb5 hd5 hs5 hlbl hw2 hlot hcr hspot hnl hsl hfit q1 g1 HL HLB4 HW4 HBY4 HSET S3 HB1
  go_wp2
  go_loopw [31] (fun i wr => ∃ k : Nat, k ≤ D2.seen.length ∧ i = .int .i64 k ∧ Crashing w5 wr own2 a w2.heap.size (.slice pb bits.length cb) bits (crashFiles bits ((namesOf D2.seen).take k) ({ D2 with used := 0 }, 0)) ∧ (crashFiles bits ((namesOf D2.seen).take k) ({ D2 with used := 0 }, 0)).2 ≤ k * 1048576000000) (fun i _ => D2.seen.length - (intOf i).toNat)
  case atStart => exact ⟨0, by omega, rfl, HCR.out, Nat.zero_le _⟩
  case round =>
    obtain ⟨k, hk, rfl, hcr, hdr⟩ := hrel
    clear HCR
    by_cases hkl : k < D2.seen.length
    · obtain ⟨s, hks⟩ : ∃ s, (namesOf D2.seen)[k]? = some s := ⟨_, List.getElem?_eq_getElem (by rw [HNL.out]; exact hkl)⟩
      obtain ⟨g, rfl, hgl, hg4, hcg⟩ := HSP.out k s hks
      obtain ⟨x, hx⟩ : ∃ x, x = crashFiles bits ((namesOf D2.seen).take k) ({ D2 with used := 0 }, 0) := ⟨_, rfl⟩
      have hnext : crashFiles bits ((namesOf D2.seen).take (k + 1)) ({ D2 with used := 0 }, 0) = crashFile bits x s := by
        have hlk : k < (namesOf D2.seen).length := by rw [HNL.out]; exact hkl
        rw [List.take_succ_eq_append_getElem hlk, crashFiles_snoc, ← hx]
        rw [List.getElem?_eq_getElem hlk] at hks
        rw [Option.some.inj hks]
      have hsm := crashFiles_same bits ((namesOf D2.seen).take k) ({ D2 with used := 0 }, 0)
      have hfx := CrashFits.steps ((namesOf D2.seen).take k) (x := ({ D2 with used := 0 }, 0)) HFIT.out
      have hux := crash_used ((namesOf D2.seen).take k) (x := ({ D2 with used := 0 }, 0)) HFIT.out
      rw [← hx] at hcr hsm hfx hux hdr
      obtain ⟨own', hd', hs'⟩ := hcr.out
      obtain ⟨n, hmem⟩ := namesOf_mem (List.mem_of_getElem? hks)
      have hnd2 : (D2.seen.map (·.1)).Nodup := by
        obtain ⟨_, _, _, _, _, h2⟩ := HD5.out.out
        exact h2.seen.nodup
      have hgs : Mp.get x.1.seen s = some n := by rw [hsm.seen]; exact get_of_mem (p := (s, n)) hnd2 hmem
      obtain ⟨fb, hfb⟩ := Option.isSome_iff_exists.1 (hcr.ok.seenIn s n hgs)
      have hg2 : own2 g = none := by
        cases hh : own2 g with
        | none => rfl
        | some r => have := HD4.out.here g r hh; omega
      have hlb2 : own2 w2.heap.size = none := by
        cases hh : own2 w2.heap.size with
        | none => rfl
        | some r => have := HH2.out _ r hh; omega
      have q6 : wr.cell? ⟨g, k, none⟩ = some (.string s) := (World.cell?_of_block (hs'.block g hgl (by have := HLBL.out; omega) (.inl hg2))).trans hcg
      obtain ⟨ms', mk', mf', lv', k1, k2⟩ := hd'.out
      have c4 : wr.cell? ⟨a, 4, none⟩ = some ms' := cells_of k1 4
      have c8 : wr.cell? ⟨a, 8, none⟩ = some mf' := cells_of k1 8
      have hfile := k2.each n fb hfb
      have X := Lib.hid hx; have NX := Lib.hid hnext; have FX := Lib.hid hfx; have UX := Lib.hid hux; have CR := Lib.hid hcr; have DX := Lib.hid hd'; have SX := Lib.hid hs'; have GS := Lib.hid hgs; have FB := Lib.hid hfb; have FILE := Lib.hid hfile; have LB2 := Lib.hid hlb2; have K1 := Lib.hid k1
      have m1 : MapV wr.drew own' .seen ms' strV natV x.1.seen := k2.seen.stay (R := fun _ => True) ⟨fun _ _ h => h, fun _ _ _ _ => rfl⟩ trivial
      have m2 : MapV wr.drew own' .files mf' natV ptrV x.1.fm := k2.files.stay (R := fun _ => True) ⟨fun _ _ h => h, fun _ _ _ _ => rfl⟩ trivial
      have hl1 := (m1.look strK namesT (zeroInt wr.drew) s).2
      have hl2 := (m2.look natK filesT (zeroFile wr.drew) n).2
      rw [hgs] at hl1
      rw [hfb] at hl2
      simp only [Option.map_some, Option.getD_some] at hl1 hl2
      unfold strV natV at hl1
      unfold natV ptrV at hl2
      clear hx hnext hfx hux hcr hd' hs' hgs hfb hfile hlb2 k1 k2 m1 m2 hsm hnd2 hmem hks hcg hgl hg4 hg2
      have hux1 : 0 ≤ x.1.used ∧ x.1.used ≤ 1099511627776000000 := by
        have h1 := UX.out
        have h2 : ((namesOf D2.seen).take k).length ≤ 1000000 := by rw [List.length_take, HNL.out]; have := HSL.out; omega
        have h3 : (({ D2 with used := 0 }, 0) : DiskA × Nat).1.used = 0 := rfl
        rw [h3] at h1
        omega
      have UX1 := Lib.hid hux1
      have lbl5 : w2.heap.size < w5.heap.size := by
        obtain ⟨o, ho⟩ := HCL5.out
        exact (Array.getElem?_eq_some_iff.1 ho).1
      have hsame : ∀ j, j < w5.heap.size → own' j = own2 j := SX.out.same
      have hS : ∀ j r, own' j = some r → ¬ (j = w2.heap.size ∨ (bits ≠ [] ∧ (Value.slice pb bits.length cb).ownBlock = some j)) := by
        rintro j r hj (rfl | ⟨hne, hbk⟩)
        · rw [hsame _ lbl5, LB2.out] at hj; cases hj
        · rcases HB.out.out with ⟨_, h1⟩ | ⟨_, _, h1⟩ | ⟨b, off, cap, h1, h2, hc⟩
          · exact hne h1
          · exact hne h1
          · have hjb : j = b := by rw [h1] at hbk; simp [Value.ownBlock] at hbk; exact hbk.symm
            subst hjb
            have hl : 0 < bits.length := by cases bits with
              | nil => exact absurd rfl hne
              | cons x xs => simp
            have hbw : j < w.heap.size := block_lt_of_cell (hc 0 hl)
            have h5 := HS5.out.size
            rw [hsame j (by omega), HS5.out.same j hbw, HBO.out hne j (by rw [h1]; rfl)] at hj
            cases hj
      have hfd : FileIs wr.drew own' n fb (x.1.cont n) := FILE.out.stay (R := fun _ => True) ⟨fun _ _ h => h, fun _ _ _ _ => rfl⟩ trivial trivial trivial trivial trivial
      have hat : (redoOps (drawBit bits) (x.1.cont n).laid x.2 (x.1.cont n).kept).2 ≤ (k + 1) * 1048576000000 := by
        obtain ⟨⟨_, _, _, _, _, _, _, _, _, h6⟩, _⟩ := FILE.out
        have h1 := redoOps_at (bit := drawBit bits) h6 x.2 (x.1.cont n).kept
        have h2 := FX.out.laid n
        omega
      have hsm8 : ∀ c ∈ (redoOps (drawBit bits) (x.1.cont n).laid x.2 (x.1.cont n).kept).1, c < 256 := by
        obtain ⟨⟨_, _, _, _, _, _, h3, _, _, h6⟩, _⟩ := FILE.out
        exact redoOps_small h6 x.2 h3.small
      have hset := settleFile_any (lots_lasts w2.heap.size (.slice pb bits.length cb) bits) own' n fb x.2 (x.1.cont n) wr.drew ((lots_lasts w2.heap.size (.slice pb bits.length cb) bits).stay x.2 wr wr.drew CR.out.lots (fun _ _ => rfl)) hfd (fun j r hj => DX.out.here j r hj) hS (FX.out.laid n) (by
        have h2 := FX.out.laid n
        have h3 := HSL.out
        unfold drawLim; omega)
      have HSET := Lib.hid hset; have HAT := Lib.hid hat; have HSM8 := Lib.hid hsm8; have HSS' := Lib.hid hS; have LBL5 := Lib.hid lbl5
      clear hset hat hfd hS hsame lbl5 hux1 hdr hsm8
      go_wp2
      go_region
      clear hl1 hl2 c4 c8 q6
      go_wp2_with fail
      refine HSET.out.mono ?_
      rintro e w6 ⟨rfl, hl6, own6, hf6, hs6⟩
      obtain ⟨sv6, kv6, lv6, cs6, z1, z2, z3, z4⟩ := hf6.out
      obtain ⟨p6, c6, hkv⟩ : ∃ p c, kv6 = .slice p (redoOps (drawBit bits) (x.1.cont n).laid x.2 (x.1.cont n).kept).1.length c := by
        rcases z3.owns.2 with ⟨h, h0⟩ | ⟨g, c, _, h, _⟩
        · exact ⟨none, 0, by rw [h, h0]⟩
        · exact ⟨_, c, h⟩
      have hlong := FX.out.long n x.2
      have hby6 := z3.bytes (by show (redoOps (drawBit bits) (x.1.cont n).laid x.2 (x.1.cont n).kept).1.length ≤ _; unfold maxLen; omega)
      have hclone := clone_any kv6 _ w6 hby6 (by show (redoOps (drawBit bits) (x.1.cont n).laid x.2 (x.1.cont n).kept).1.length ≤ _; omega)
      subst hkv
      have d1 : w6.cell? ⟨fb, 1, none⟩ = some (.slice p6 (redoOps (drawBit bits) (x.1.cont n).laid x.2 (x.1.cont n).kept).1.length c6) := cells_of z1 1
      have hfbl : fb < w6.heap.size := (Array.getElem?_eq_some_iff.1 z1).1
      have HCLONE := Lib.hid hclone; have L6 := Lib.hid hl6; have F6 := Lib.hid hf6; have S6 := Lib.hid hs6; have Z1 := Lib.hid z1; have HLONG := Lib.hid hlong
      clear hclone hl6 hf6 hs6 z1 z2 z3 z4 hby6 hlong
      go_wp2_with fail
      refine HCLONE.out.mono ?_
      rintro e w7 ⟨v7, rfl, ho7, hk7, hb7⟩
      obtain ⟨p7, c7, hv7⟩ : ∃ p c, v7 = .slice p (redoOps (drawBit bits) (x.1.cont n).laid x.2 (x.1.cont n).kept).1.length c := by
        rcases ho7.2 with ⟨h, h0⟩ | ⟨g, c, _, h, _⟩
        · exact ⟨none, 0, by rw [h, h0]⟩
        · exact ⟨_, c, h⟩
      have dw : DiskIs wr.drew own' a x.1 := DX.out.same rfl
      have here6 : ∀ j r, own6 j = some r → j < w6.heap.size := fun j r hj => by
        rcases S6.out.new j r hj with h' | ⟨_, h', _⟩
        · exact Nat.lt_of_lt_of_le (dw.here j r h') S6.out.turned.size
        · exact h'
      obtain ⟨own8, f8, s8⟩ := F6.out.reseen here6 hb7 ho7 hk7 HSM8.out
      have z7 : w7.heap[fb]? = some (.cells #[sv6, .slice p6 (redoOps (drawBit bits) (x.1.cont n).laid x.2 (x.1.cont n).kept).1.length c6, lv6] 75 (0, 0)) := (hb7.block fb hfbl).trans Z1.out
      have t7 := set_heap z7 0 v7
      have e0 : w7.cell? ⟨fb, 0, none⟩ = some sv6 := cells_of z7 0
      have e1 := free_of z7 0
      obtain ⟨d8, sl8⟩ := crash_file_done (bits := bits) dw rfl GS.out FB.out (fun j r hj e => HSS'.out j r hj (.inl e.symm)) F6.out S6.out f8 s8
      have lot8 : LotsIs w2.heap.size (.slice pb bits.length cb) bits (redoOps (drawBit bits) (x.1.cont n).laid x.2 (x.1.cont n).kept).2 (w7.setCell ⟨fb, 0, none⟩ v7) := by
        refine (lots_lasts w2.heap.size (.slice pb bits.length cb) bits).stay _ w6 _ L6.out (fun j hj => ?_)
        have hj6 := (lots_lasts w2.heap.size (.slice pb bits.length cb) bits).here _ w6 j L6.out hj
        refine (t7.2 j ?_).trans (hb7.block j hj6)
        rintro rfl
        exact HSS'.out _ _ FILE.out.role hj
      have sx8 : StepsL w2.heap.size own2 own8 w5 (w7.setCell ⟨fb, 0, none⟩ v7) := (SX.out.trans (show StepsL w2.heap.size own' own' wr wr.drew from ⟨rfl, rfl, rfl, Nat.le_refl _, fun _ _ _ _ => rfl, fun _ _ => rfl⟩)).trans sl8
      subst hv7
      obtain ⟨W8, hW8⟩ : ∃ W8, W8 = w7.setCell ⟨fb, 0, none⟩ (.slice p7 (redoOps (drawBit bits) (x.1.cont n).laid x.2 (x.1.cont n).kept).1.length c7) := ⟨_, rfl⟩
      rw [← hW8] at d8 lot8 sx8 t7
      have ceq := crashFile_eq (bits := bits) GS.out
      have su := d8.setUsed (x.1.used + ((redoOps (drawBit bits) (x.1.cont n).laid x.2 (x.1.cont n).kept).1.length : Int))
      obtain ⟨ms8, mk8, mf8, lv8, r1, _⟩ := d8.out
      have g1 : W8.cell? ⟨a, 1, none⟩ = some (.int .i64 x.1.used) := cells_of r1 1
      have g2 := free_of r1 1
      have g3 : W8.cell? ⟨fb, 0, none⟩ = some (.slice p7 (redoOps (drawBit bits) (x.1.cont n).laid x.2 (x.1.cont n).kept).1.length c7) := cells_of t7.1 0
      have hla : w2.heap.size ≠ a := by
        rintro rfl
        exact HSS'.out _ _ DX.out.role (.inl rfl)
      have lot9 : LotsIs w2.heap.size (.slice pb bits.length cb) bits (redoOps (drawBit bits) (x.1.cont n).laid x.2 (x.1.cont n).kept).2 (W8.setCell ⟨a, 1, none⟩ (.int .i64 (x.1.used + ((redoOps (drawBit bits) (x.1.cont n).laid x.2 (x.1.cont n).kept).1.length : Int)))) := by
        refine (lots_lasts w2.heap.size (.slice pb bits.length cb) bits).stay _ W8 _ lot8 (fun j hj => (set_heap r1 1 _).2 j ?_)
        rintro rfl
        exact HSS'.out _ _ DX.out.role hj
      have fin : Crashing w5 (W8.setCell ⟨a, 1, none⟩ (.int .i64 (x.1.used + ((redoOps (drawBit bits) (x.1.cont n).laid x.2 (x.1.cont n).kept).1.length : Int)))) own2 a w2.heap.size (.slice pb bits.length cb) bits (crashFile bits x s) := by
        rw [ceq]
        exact ⟨⟨own8, su.1, sx8.trans (StepsL.of_steps su.2)⟩, lot9, ⟨CR.out.ok.seenIn, CR.out.ok.keptIn, CR.out.ok.laidIn, CR.out.ok.made⟩⟩
      have FIN := Lib.hid fin
      have hdr2 : (crashFile bits x s).2 ≤ (k + 1) * 1048576000000 := by rw [ceq]; exact HAT.out
      have HDR2 := Lib.hid hdr2
      have hll := HLONG.out
      have hu := UX1.out
      obtain ⟨L, hL⟩ : ∃ L, (redoOps (drawBit bits) (x.1.cont n).laid x.2 (x.1.cont n).kept).1.length = L := ⟨_, rfl⟩
      rw [hL] at hll g3
      have HLL := Lib.hid hL
      have hsum : IntKind.i64.wrap (x.1.used + (L : Int)) = x.1.used + (L : Int) := IntWalk.i64_in _ (by omega)
      have HWW := Lib.hid hW8
      rw [hL] at FIN hW8
      clear su r1 d8 lot8 sx8 t7 ceq fin hdr2 lot9 sl8 f8 s8 z7 ho7 hk7 hb7 dw here6 hla hll hu d1
      go_wp2
      rw [← hW8]
      clear hW8
      go_region
      clear hsum
      have hkm : (k : Int) < 1000000 := by have := HSL.out; omega
      go_wp2
      go_roundw
      case rel => exact ⟨k + 1, by omega, by go_num, by rw [NX.out]; exact FIN.out.drew, by rw [NX.out]; exact HDR2.out⟩
      case measure => simp [intOf]; omega
    · obtain rfl : k = D2.seen.length := by omega
      have htake : (namesOf D2.seen).take D2.seen.length = namesOf D2.seen := List.take_of_length_le (by rw [HNL.out]; omega)
      rw [htake] at hcr
      obtain ⟨own', hd', hs'⟩ := hcr.out
      have hfin : ∃ own' fm', Steps own own' w wr ∧ DiskIs wr own' a (crashed bits D fm') ∧ (crashed bits D fm').Ok ∧ Kept D.fm (redoNames (D.laid.take (firstOf bits D.laid.length)) D.kept) fm' := by
        refine ⟨own', fm', hs'.lead HS5.out HW2.out, ?_, ?_, HK2.out⟩
        · unfold crashed; rw [← HD2.out]; exact hd'
        · unfold crashed; rw [← HD2.out]; exact hcr.ok
      have HFIN := Lib.hid hfin
      clear hcr hd' hs' hfin htake hdr
      go_wp2
      go_returns
      exact ⟨rfl, HFIN.out⟩
end Go.Proofs.YtldkeelgnfegeaaGreat
