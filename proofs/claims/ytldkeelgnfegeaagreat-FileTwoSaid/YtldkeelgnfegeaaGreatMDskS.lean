/- The disk: Write. -/
import Derived.Test.YtldkeelgnfegeaaGreatMDskR

namespace Go.Proofs.YtldkeelgnfegeaaGreat
open Go Go.RowKit Go.By

set_option maxRecDepth 100000 in
set_option maxHeartbeats 8000000 in
theorem write_any (own : Own) (a : Nat) (D : DiskA) (s : ByteArray) (off : Int) (bv : Value) (b : List Nat) (w : World) (h : DiskIs w own a D) (hk : D.Ok) (ho : D.ops < 4611686018427387904) (hl : D.left < 4611686018427387904) (hs : s.size ≤ maxLen) (hll : ∀ n, (D.cont n).laid.length < 1000000)
    (hr : 0 ≤ D.room ∧ D.room ≤ 9223372036854775807) (hu : 0 ≤ D.used ∧ D.used ≤ 4611686018427387904) (hlen : ∀ n, (D.cont n).seen.length ≤ 1099511627776) (hb : Bytes w bv b) (hbk : b ≠ [] → ∀ k, bv.ownBlock = some k → own k = none ∨ own k = some .ink) (hbl : b.length ≤ 1048576) :
    Calls Tryz.prog 55 #[.pointer (some ⟨a, 0, none⟩), .string s, .int .i64 off, bv] w (Filed own a (D.begin (mayNumber off && mayName s)).1 (D.begin (mayNumber off && mayName s)).2 s ((D.begin (mayNumber off && mayName s)).1.write · off b) w) := by
  have hfind := find_any own a D s (mayNumber off) w h hk ho hl hs
  have hsame := D.begin_same (mayNumber off && mayName s)
  have herr2 : (D.begin (mayNumber off && mayName s)).2 = 0 → mayNumber off = true := by
    unfold DiskA.begin
    split
    · intro h; cases h
    · intro h
      cases hm : mayNumber off
      · rw [hm] at h; simp at h
      · rfl
  obtain ⟨D1, hD1⟩ : ∃ D1, D1 = (D.begin (mayNumber off && mayName s)).1 := ⟨_, rfl⟩
  obtain ⟨err, herr⟩ : ∃ err, err = (D.begin (mayNumber off && mayName s)).2 := ⟨_, rfl⟩
  rw [← hD1] at hsame
  rw [← herr] at herr2
  rw [← hD1, ← herr] at hfind ⊢
  obtain ⟨_, _, _, _, hc, hro, hus, _⟩ := hsame
  rw [← hc] at hll hlen
  rw [← hro] at hr
  rw [← hus] at hu
  have HF := Lib.hid hfind; have HLL := Lib.hid hll; have HR := Lib.hid hr; have HU := Lib.hid hu; have HLEN := Lib.hid hlen; have HE2 := Lib.hid herr2
  clear hfind h hk ho hl hD1 herr hc hro hus hll hr hu hlen herr2
  obtain ⟨mn, hmn⟩ : ∃ mn, mn = mayNumber off := ⟨_, rfl⟩
  have hmay := fun w0 => mayNumber_any off w0
  rw [← hmn] at HF HE2 hmay
  have HMN := Lib.hid hmn; have HMAY := Lib.hid hmay
  clear hmn hmay
  obtain ⟨p, cap, rfl, _⟩ := hb.any
  have HB := Lib.hid hb; have HBK := Lib.hid hbk; have HBL := Lib.hid hbl
  clear hb hbk
  go_enter Tryz.func55, Tryz.ntmps55
  go_wp2_with (go_at_call 48; refine (HMAY.out _).mono ?_; rintro e w1 ⟨rfl, rfl⟩)
  refine HF.out.mono ?_
  rintro e w1 ⟨hd, hst, ⟨he, rfl⟩ | ⟨rfl, hg, rfl⟩ | ⟨rfl, n, fb, hg, hfb, rfl⟩⟩
  · have HD := Lib.hid hd; have HST := Lib.hid hst; clear hd hst
    go_wp2
    go_ret
    exact ⟨own, HST.out, .inl ⟨he, rfl, HD.out⟩⟩
  · have HD := Lib.hid hd; have HST := Lib.hid hst; have HG := Lib.hid hg; clear hd hst hg
    go_wp2
    go_ret
    exact ⟨own, HST.out, .inr (.inl ⟨rfl, HG.out, rfl, HD.out⟩)⟩
  · have hsz : 0 ≤ off ∧ off ≤ 16777216 := by
      have := HMN.out.symm.trans (HE2.out rfl)
      unfold mayNumber at this
      simpa using this
    have hb1 := Bytes.stepsE HB.out hst HBK.out
    have HB1 := Lib.hid hb1
    clear hb1
    by_cases hb0 : b.length = 0
    · have e : b = [] := List.eq_nil_of_length_eq_zero hb0
      have HD := Lib.hid hd; have HST := Lib.hid hst; have HG := Lib.hid hg; have HE := Lib.hid e
      clear hd hst hg e hfb
      have hd2 : decide ((b.length : Int) = 0) = true := by simp [hb0]
      go_wp2
      go_ret
      exact ⟨own, HST.out, .inr (.inr ⟨rfl, n, 0, D1, HG.out, .inl ⟨HE.out, rfl, rfl⟩, rfl, HD.out⟩)⟩
    · obtain ⟨m, rfl⟩ : ∃ m : Nat, off = m := ⟨off.toNat, by omega⟩
      have hne : b ≠ [] := fun e => hb0 (by rw [e]; rfl)
      have hb0i : ¬ (b.length : Int) = 0 := by omega
      have hd2 : decide ((b.length : Int) = 0) = false := by simp [hb0]
      have hbl1 : b.length ≤ 1048576 := HBL.out
      have hroom := hasRoom_any own a n fb D1 ((m : Int) + b.length) w1 hd hfb HR.out HU.out (by omega)
      have hw0 : IntKind.i64.wrap ((m : Int) + b.length) = (m : Int) + b.length := IntWalk.i64_in _ (by omega)
      have HD := Lib.hid hd; have HST := Lib.hid hst; have HG := Lib.hid hg; have HFB := Lib.hid hfb; have HROOM := Lib.hid hroom; have HNE := Lib.hid hne; have HSZ := Lib.hid hsz
      clear hd hst hg hfb hroom hne
      go_wp2_with fail
      refine HROOM.out.mono ?_
      rintro e w2 ⟨rfl, _, hd2', hst2⟩
      cases hrm : D1.hasRoom n ((m : Int) + b.length)
      · have HRM := Lib.hid hrm; have HD2 := Lib.hid hd2'; have ST2 := Lib.hid (HST.out.trans hst2)
        clear hrm hd2' hst2
        go_wp2
        go_ret
        exact ⟨own, ST2.out, .inr (.inr ⟨rfl, n, 4, _, HG.out, .inr (.inl ⟨HNE.out, HRM.out, rfl, rfl⟩), rfl, HD2.out⟩)⟩
      · obtain ⟨ms, mk, mf, lv, h1, _⟩ := hd2'.out
        have g1 : w2.cell? ⟨a, 1, none⟩ = some (.int .i64 D1.used) := cells_of h1 1
        have hb2 := Bytes.stepsE HB1.out hst2 HBK.out
        have hrest : ∀ (w3 w4 : World) (v : Value), w3.heap = w2.heap → w3.os = w2.os → w3.tape = w2.tape → w3.output = w2.output → w4.ownsRow 0 5 1 v b.length (cellsOf b) → (∀ k, v.ownBlock = some k → w3.heap.size ≤ k) → Below w3.heap.size w3 w4 →
            WriteRest own a n fb D1 m b ((D1.cont n).more (.write m b)) w w4 v := fun w3 w4 v e1 e2 e3 e4 q1 q2 q3 => write_rest hd2' (HST.out.trans hst2) HFB.out (HLL.out n) (by omega) (by omega) hbl1 hb2.small e1 e2 e3 e4 q1 q2 q3
        have hclone : ∀ w3 : World, w3.heap = w2.heap → Calls Tryz.prog 33 #[.slice p b.length cap] w3 fun e w' => ∃ p' c', e = .returned (.slice p' b.length c') ∧ w'.ownsRow 0 5 1 (.slice p' b.length c') b.length (cellsOf b) ∧ (∀ k, (Value.slice p' b.length c').ownBlock = some k → w3.heap.size ≤ k) ∧ Below w3.heap.size w3 w' := fun w3 e1 => (clone_any _ b w3 (Bytes.same hb2 e1) (by omega)).mono (by
          rintro e w' ⟨v', rfl, q1, q2, q3⟩
          rcases q1.2 with ⟨h, h2⟩ | ⟨g, c, cur, h, h3⟩
          · exact ⟨none, 0, by rw [h, h2], by rw [h, h2] at q1; rw [h2]; exact q1, fun k hk => (by cases hk), q3⟩
          · subst h; exact ⟨_, _, rfl, q1, q2, q3⟩)
        have hx : 0 ≤ (D1.cont n).more (.write m b) ∧ (D1.cont n).more (.write m b) ≤ 1099511627776 := by
          have h1 := HLEN.out n
          have h2 := redoWrite_length (off := m) (b := b) (bit := allBits) b.length 0 0 (D1.cont n).seen (Nat.zero_le _)
          have e : ((D1.cont n).alter (.write m b)).seen = (redoWrite m b allBits b.length 0 0 (D1.cont n).seen).1 := rfl
          unfold FileA.more
          rw [e]
          omega
        have hfin : D1.write n m b 0 (D1.alterFile n (.write m b)) := .inr (.inr ⟨HNE.out, hrm, rfl, by simp⟩)
        have HREST := Lib.hid hrest; have HCL := Lib.hid hclone; have HFIN := Lib.hid hfin
        obtain ⟨hx1, hx2⟩ := hx
        obtain ⟨hu1, hu2⟩ := HU.out
        generalize (D1.cont n).more (.write m b) = x at *
        have hw : IntKind.i64.wrap (D1.used + x) = D1.used + x := IntWalk.i64_in _ (by omega)
        clear hrm hd2' hst2 hrest hclone hfin h1 hx1 hx2 hu1 hu2 hb2 hw0
        go_wp2
        go_region_with (first
          | (go_at_call 33; refine (HCL.out _ (by rfl)).mono ?_; rintro e w4 ⟨p4, c4, rfl, k1, k2, k3⟩; obtain ⟨k5, k6⟩ := HREST.out _ _ _ (by rfl) (by rfl) (by rfl) (by rfl) k1 k2 k3; have HK6 := Lib.hid k6; clear k6 k1 k2 k3)
          | (go_at_call 50; refine (HK6.out _ (by rfl) (by rfl) (by rfl) (by rfl)).mono ?_; rintro e w5 ⟨rfl, k7, k8, k9⟩; have K9 := Lib.hid k9; clear k9))
        all_goals
          go_wp2
          go_ret
          obtain ⟨own3, k4, k5⟩ := K9.out
          exact ⟨own3, k4, .inr (.inr ⟨rfl, n, 0, _, HG.out, HFIN.out, rfl, k5⟩)⟩
end Go.Proofs.YtldkeelgnfegeaaGreat
