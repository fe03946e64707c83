/- The disk: Read. -/
import Derived.Test.YtldkeelgnfegeaaGreatMDskS

namespace Go.Proofs.YtldkeelgnfegeaaGreat
open Go Go.RowKit Go.By

theorem diskT_size (w : World) : (sizeOf (Tryz.prog.elem 23)).run Tryz.prog w = .ok 1 w := by kernel_rfl
/-- b[i:i+n]. -/
theorem cut_run {w : World} {p : Option Addr} {cap : Nat} {l : List Nat} (h : Bytes w (.slice p l.length cap) l) (i n : Nat) (hn : i + n ≤ l.length) :
    ∃ q c, (∀ w0 : World, (Instr.slice 23 (.slice p l.length cap) (some (.int .i64 (i : Int))) (some (.int .i64 ((i : Int) + (n : Int)))) none).run Tryz.prog w0 = .ok (.slice q n c) w0) ∧ Bytes w (.slice q n c) ((l.drop i).take n) := by
  have hcap := h.room.2
  have hr := fun w0 => run_slice_lh (P := Tryz.prog) w0 23 p l.length cap (by kernel_rfl) .i64 .i64 (i : Int) ((i : Int) + (n : Int)) (by omega) (by omega) (by omega)
  have e1 : ((i : Int) + (n : Int)).toNat = i + n := by omega
  have e2 : (i : Int).toNat = i := by omega
  simp only [diskT_size, Result.andThen, e1, e2, sliced, Nat.add_sub_cancel_left, Nat.mul_one] at hr
  refine ⟨_, _, hr, ?_⟩
  have hpl : ((l.drop i).take n).length = n := by simp; omega
  have hps : ∀ c ∈ (l.drop i).take n, c < 256 := fun c hc => h.small c (List.mem_of_mem_drop (List.mem_of_mem_take hc))
  rcases h.out with ⟨h1, rfl⟩ | ⟨a, h1, rfl⟩ | ⟨b, off, cap', h1, h2, hc⟩
  · simp only [Value.slice.injEq] at h1
    obtain ⟨rfl, _, rfl⟩ := h1
    simp only [List.length_nil] at hn
    obtain rfl : i = 0 := by omega
    obtain rfl : n = 0 := by omega
    simpa using Bytes.nil w
  · simp only [Value.slice.injEq] at h1
    obtain ⟨rfl, _, rfl⟩ := h1
    simp only [List.length_nil] at hn
    obtain rfl : i = 0 := by omega
    obtain rfl : n = 0 := by omega
    simp only [↓reduceIte, Nat.sub_zero, List.drop_nil, List.take_nil]
    exact ⟨.inr (.inl ⟨a, rfl, rfl⟩), by simp, by simp⟩
  · simp only [Value.slice.injEq, true_and] at h1
    obtain ⟨rfl, rfl⟩ := h1
    by_cases he : cap = i
    · obtain rfl : n = 0 := by omega
      rw [if_pos he]
      subst he
      simp only [Nat.sub_self, List.take_zero]
      exact ⟨.inr (.inl ⟨_, rfl, rfl⟩), by simp, by simp⟩
    · rw [if_neg he]
      refine ⟨.inr (.inr ⟨b, off + i, cap - i, by simp [Addr.add_lit, hpl], by rw [hpl]; omega, fun j hj => ?_⟩), hps, by rw [hpl]; have := h.short; omega⟩
      rw [hpl] at hj
      rw [Nat.add_assoc, hc (i + j) (by omega), atB_take hj]
      simp only [atB, List.getD_eq_getElem?_getD, List.getElem?_drop]

def ReadOut (own : Own) (a : Nat) (D1 : DiskA) (err : Int) (s : ByteArray) (off n : Int) (w : World) (e : Ending) (w' : World) : Prop :=
  Steps own own w w' ∧ DiskIs w' own a D1 ∧
   ((err ≠ 0 ∧ e = .returned (.tuple #[.slice none 0 0, .int .i64 err])) ∨ (err = 0 ∧ Mp.get D1.seen s = none ∧ e = .returned (.tuple #[.slice none 0 0, .int .i64 3])) ∨
    (err = 0 ∧ 0 ≤ off ∧ 0 ≤ n ∧ ∃ k, Mp.get D1.seen s = some k ∧
      ((((D1.cont k).seen.length : Int) < off + n ∧ e = .returned (.tuple #[.slice none 0 0, .int .i64 2])) ∨
       (off + n ≤ ((D1.cont k).seen.length : Int) ∧ ∃ v, e = .returned (.tuple #[v, .int .i64 0]) ∧ w'.ownsRow w.heap.size 5 1 v n.toNat (cellsOf (((D1.cont k).seen.drop off.toNat).take n.toNat))))))

set_option maxRecDepth 100000 in
set_option maxHeartbeats 4000000 in
theorem read_any (own : Own) (a : Nat) (D : DiskA) (s : ByteArray) (off n : Int) (w : World) (h : DiskIs w own a D) (hk : D.Ok) (ho : D.ops < 4611686018427387904) (hl : D.left < 4611686018427387904) (hs : s.size ≤ maxLen) (hlen : ∀ n, (D.cont n).seen.length ≤ 1099511627776) :
    Calls Tryz.prog 41 #[.pointer (some ⟨a, 0, none⟩), .string s, .int .i64 off, .int .i64 n] w (ReadOut own a (D.begin ((mayNumber off && mayNumber n) && mayName s)).1 (D.begin ((mayNumber off && mayNumber n) && mayName s)).2 s off n w) := by
  have hfind := find_any own a D s (mayNumber off && mayNumber n) w h hk ho hl hs
  have hsame := D.begin_same ((mayNumber off && mayNumber n) && mayName s)
  have herr2 : (D.begin ((mayNumber off && mayNumber n) && mayName s)).2 = 0 → mayNumber off = true ∧ mayNumber n = true := by
    unfold DiskA.begin
    split
    · intro h; cases h
    · intro h
      cases hm : mayNumber off
      · rw [hm] at h; simp at h
      · cases hm2 : mayNumber n
        · rw [hm, hm2] at h; simp at h
        · exact ⟨rfl, rfl⟩
  obtain ⟨D1, hD1⟩ : ∃ D1, D1 = (D.begin ((mayNumber off && mayNumber n) && mayName s)).1 := ⟨_, rfl⟩
  obtain ⟨err, herr⟩ : ∃ err, err = (D.begin ((mayNumber off && mayNumber n) && mayName s)).2 := ⟨_, rfl⟩
  rw [← hD1] at hsame
  rw [← herr] at herr2
  rw [← hD1, ← herr] at hfind ⊢
  obtain ⟨_, _, _, _, hc, _⟩ := hsame
  rw [← hc] at hlen
  have HF := Lib.hid hfind; have HLEN := Lib.hid hlen; have HE2 := Lib.hid herr2
  clear hfind h hk ho hl hD1 herr hc hlen herr2
  have hmo := fun w0 => mayNumber_any off w0
  have hmn := fun w0 => mayNumber_any n w0
  have hb : (mayNumber off = true → 0 ≤ off ∧ off ≤ 16777216) ∧ (mayNumber n = true → 0 ≤ n ∧ n ≤ 16777216) := by
    unfold mayNumber; simp
  have HNB := Lib.hid hb
  clear hb
  obtain ⟨mo, hmo2⟩ : ∃ mn, mn = mayNumber off := ⟨_, rfl⟩
  obtain ⟨mn, hmn2⟩ : ∃ mn, mn = mayNumber n := ⟨_, rfl⟩
  rw [← hmo2] at HF HE2 hmo HNB
  rw [← hmn2] at HF HE2 hmn HNB
  have HMO := Lib.hid hmo; have HMN := Lib.hid hmn
  clear hmo hmn hmo2 hmn2
  cases mo
  case false =>
    go_enter Tryz.func41, Tryz.ntmps41
    go_wp2_with (go_at_call 48; first | (refine (HMO.out _).mono ?_; rintro e w1 ⟨rfl, rfl⟩) | (refine (HMN.out _).mono ?_; rintro e w1 ⟨rfl, rfl⟩))
    simp only [Bool.false_and] at HF
    refine HF.out.mono ?_
    rintro e w1 ⟨hd, hst, ⟨he, rfl⟩ | ⟨rfl, hg, rfl⟩ | ⟨rfl, k, fb, hg, hfb, rfl⟩⟩
    · have HD := Lib.hid hd; have HST := Lib.hid hst; clear hd hst
      go_wp2
      go_ret2
      exact ⟨HST.out, HD.out, .inl ⟨he, rfl⟩⟩
    · exact absurd (HE2.out rfl).1 (by decide)
    · exact absurd (HE2.out rfl).1 (by decide)
  case true =>
    go_enter Tryz.func41, Tryz.ntmps41
    go_wp2_with (go_at_call 48; first | (refine (HMO.out _).mono ?_; rintro e w1 ⟨rfl, rfl⟩) | (refine (HMN.out _).mono ?_; rintro e w1 ⟨rfl, rfl⟩))
    simp only [Bool.true_and] at HF
    refine HF.out.mono ?_
    rintro e w1 ⟨hd, hst, ⟨he, rfl⟩ | ⟨rfl, hg, rfl⟩ | ⟨rfl, k, fb, hg, hfb, rfl⟩⟩
    · have HD := Lib.hid hd; have HST := Lib.hid hst; clear hd hst
      go_wp2
      go_ret2
      exact ⟨HST.out, HD.out, .inl ⟨he, rfl⟩⟩
    · have HD := Lib.hid hd; have HST := Lib.hid hst; have HG := Lib.hid hg; clear hd hst hg
      go_wp2
      go_ret2
      exact ⟨HST.out, HD.out, .inr (.inl ⟨rfl, HG.out, rfl⟩)⟩
    · obtain ⟨o1, o2⟩ := HNB.out.1 (by trivial)
      obtain ⟨n1, n2⟩ := HNB.out.2 (by first | exact (HE2.out rfl).2 | simpa using (HE2.out rfl).2)
      obtain ⟨ms, mk, mf, lv, h1, h2⟩ := hd.out
      obtain ⟨⟨sv, kv, flv, cs, g1, g2, _⟩, _⟩ := h2.each k fb hfb
      have c0 : w1.cell? ⟨fb, 0, none⟩ = some sv := cells_of g1 0
      have hL := HLEN.out k
      have hby : Bytes w1 sv (D1.cont k).seen := g2.bytes (by unfold maxLen; omega)
      generalize hS : (D1.cont k).seen = S at *
      obtain ⟨p, cap, rfl, _⟩ := hby.any
      have wr : IntKind.i64.wrap (off + n) = off + n := IntWalk.i64_in _ (by omega)
      by_cases hlt : (S.length : Int) < off + n
      · have HD := Lib.hid hd; have HST := Lib.hid hst; have HG := Lib.hid hg
        clear hd hst hg h1 h2 g1 g2 hfb
        go_wp2
        go_ret2
        exact ⟨HST.out, HD.out, .inr (.inr ⟨rfl, o1, n1, k, HG.out, .inl ⟨by rw [hS]; exact hlt, rfl⟩⟩)⟩
      · obtain ⟨i, rfl⟩ : ∃ i : Nat, off = i := ⟨off.toNat, by omega⟩
        obtain ⟨m, rfl⟩ : ∃ m : Nat, n = m := ⟨n.toNat, by omega⟩
        obtain ⟨q, c, hrun, hby2⟩ := cut_run hby i m (by omega)
        have hpl : ((S.drop i).take m).length = m := by simp; omega
        have HCL := Lib.hid (clone_any _ _ w1 hby2 (by rw [hpl]; omega))
        have HD := Lib.hid hd; have HST := Lib.hid hst; have HG := Lib.hid hg
        clear hd hst hg h1 h2 g1 g2 hfb hby hby2
        go_wp2_with fail
        refine HCL.out.mono ?_
        rintro e w2 ⟨v, rfl, hown, hkk, hb2⟩
        have hown2 : w2.ownsRow w.heap.size 5 1 v m (cellsOf ((S.drop i).take m)) := by
          rw [hpl] at hown
          refine ⟨hown.1, ?_⟩
          rcases hown.2 with h | ⟨g, c, cur, h1, _, h3⟩
          · exact .inl h
          · exact .inr ⟨g, c, cur, h1, Nat.le_trans HST.out.size (hkk g (by rw [h1]; rfl)), h3⟩
        have hd2 := HD.out.beside (o1 := fun _ => none) (o2 := fun _ => none) (Steps.of_below hb2) (fun _ _ _ => .inl rfl)
        have HO := Lib.hid hown2; have HD2 := Lib.hid hd2; have HST2 := Lib.hid (HST.out.trans (Steps.of_below hb2))
        clear hown hkk hb2 hown2 hd2 hrun
        go_wp2
        go_ret2
        exact ⟨HST2.out, HD2.out, .inr (.inr ⟨rfl, o1, n1, k, HG.out, .inr ⟨by rw [hS]; omega, v, rfl, by rw [hS]; exact HO.out⟩⟩)⟩
end Go.Proofs.YtldkeelgnfegeaaGreat
