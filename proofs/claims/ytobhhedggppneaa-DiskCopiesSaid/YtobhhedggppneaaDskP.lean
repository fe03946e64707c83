/- The disk: Truncate. -/
import Derived.Test.YtobhhedggppneaaDskO
import Derived.Deep.AppendLies
namespace Go.Proofs.Ytobhhedggppneaa
open Go Go.RowKit Go.By

def FileA.alter (F : FileA) (o : ByteOp) : FileA := { F with seen := (redoOp allBits o 0 F.seen).1, laid := F.laid ++ [o] }
def FileA.more (F : FileA) (o : ByteOp) : Int := ((F.alter o).seen.length : Int) - F.seen.length
def DiskA.alterFile (D : DiskA) (n : Nat) (o : ByteOp) : DiskA :=
  { D.withFile n ((D.cont n).alter o) with used := D.used + (D.cont n).more o }
def DiskA.truncate (D : DiskA) (n : Nat) (size : Int) (x : Int) (D2 : DiskA) : Prop :=
  (D.hasRoom n size = false ∧ x = 4 ∧ D2 = D) ∨ (D.hasRoom n size = true ∧ x = 0 ∧ D2 = D.alterFile n (.cut size.toNat))

theorem alterDisk_any (own : Own) (a n fb : Nat) (D : DiskA) (c : Value) (o : ByteOp) (w : World) (h : DiskIs w own a D) (hn : Mp.get D.fm n = some fb) (ho : OpV w own c o) (hl : (D.cont n).laid.length < 1000000) :
    Calls Try.prog 30 #[.pointer (some ⟨fb, 0, none⟩), c] w fun e w' => e = .returned (.int .i64 ((D.cont n).more o)) ∧ w'.cell? ⟨a, 1, none⟩ = some (.int .i64 D.used) ∧ w'.frozen? ⟨a, 1, none⟩ = false ∧
      ∃ own', Steps own own' w (w'.setCell ⟨a, 1, none⟩ (.int .i64 (D.used + (D.cont n).more o))) ∧ DiskIs (w'.setCell ⟨a, 1, none⟩ (.int .i64 (D.used + (D.cont n).more o))) own' a (D.alterFile n o) := by
  obtain ⟨ms, mk, mf, lv, h1, h2⟩ := h.out
  refine (alterFile_any own n fb (D.cont n) c o w (h2.each n fb hn) ho h.here hl).mono ?_
  rintro e w' ⟨rfl, own', hf, hs⟩
  have hd := h.filed hn hf hs (by simp)
  obtain ⟨ms', mk', mf', lv', g1, g2⟩ := hd.out
  obtain ⟨q1, q2⟩ := hd.setUsed (D.used + (D.cont n).more o)
  exact ⟨rfl, cells_of g1 1, free_of g1 1, own', hs.steps.trans q2, q1⟩

set_option maxRecDepth 100000 in
set_option maxHeartbeats 200000 in
theorem truncate_any (own : Own) (a : Nat) (D : DiskA) (s : ByteArray) (size : Int) (w : World) (h : DiskIs w own a D) (hk : D.Ok) (ho : D.ops < 4611686018427387904) (hl : D.left < 4611686018427387904) (hs : s.size ≤ maxLen) (hll : ∀ n, (D.cont n).laid.length < 1000000)
    (hr : 0 ≤ D.room ∧ D.room ≤ 9223372036854775807) (hu : 0 ≤ D.used ∧ D.used ≤ 4611686018427387904) (hlen : ∀ n, (D.cont n).seen.length ≤ 1099511627776) :
    Calls Try.prog 18 #[.pointer (some ⟨a, 0, none⟩), .string s, .int .i64 size] w (Filed own a (D.begin (mayNumber size && mayName s)).1 (D.begin (mayNumber size && mayName s)).2 s ((D.begin (mayNumber size && mayName s)).1.truncate · size) w) := by
  have hfind := find_any own a D s (mayNumber size) w h hk ho hl hs
  have hsame := D.begin_same (mayNumber size && mayName s)
  have herr2 : (D.begin (mayNumber size && mayName s)).2 = 0 → mayNumber size = true := by
    unfold DiskA.begin
    split
    · intro h; cases h
    · intro h
      cases hm : mayNumber size
      · rw [hm] at h; simp at h
      · rfl
  obtain ⟨D1, hD1⟩ : ∃ D1, D1 = (D.begin (mayNumber size && mayName s)).1 := ⟨_, rfl⟩
  obtain ⟨err, herr⟩ : ∃ err, err = (D.begin (mayNumber size && mayName s)).2 := ⟨_, rfl⟩
  rw [← hD1] at hsame
  rw [← herr] at herr2
  rw [← hD1, ← herr] at hfind ⊢
  obtain ⟨_, _, _, _, hc, hro, hus, _⟩ := hsame
  rw [← hc] at hll hlen
  rw [← hro] at hr
  rw [← hus] at hu
  have HF := Lib.hid hfind; have HLL := Lib.hid hll; have HR := Lib.hid hr; have HU := Lib.hid hu; have HLEN := Lib.hid hlen; have HE2 := Lib.hid herr2
  clear hfind h hk ho hl hD1 herr hc hro hus hll hr hu hlen herr2
  obtain ⟨mn, hmn⟩ : ∃ mn, mn = mayNumber size := ⟨_, rfl⟩
  have hmay := fun w0 => mayNumber_any size w0
  rw [← hmn] at HF HE2 hmay
  have HMN := Lib.hid hmn; have HMAY := Lib.hid hmay
  clear hmn hmay
  go_enter Try.func18, Try.ntmps18
  go_wp2_with (go_at_call 28; refine (HMAY.out _).mono ?_; rintro e w1 ⟨rfl, rfl⟩)
  refine HF.out.mono ?_
  rintro e w1 ⟨hd, hst, ⟨he, rfl⟩ | ⟨rfl, hg, rfl⟩ | ⟨rfl, n, fb, hg, hfb, rfl⟩⟩
  · have HD := Lib.hid hd; have HST := Lib.hid hst; clear hd hst
    go_wp2
    go_ret
    exact ⟨own, HST.out, .inl ⟨he, rfl, HD.out⟩⟩
  · have HD := Lib.hid hd; have HST := Lib.hid hst; have HG := Lib.hid hg; clear hd hst hg
    go_wp2
    go_ret
    exact ⟨own, HST.out, .inr (.inl ⟨rfl, HG.out, rfl, HD.out⟩)⟩
  · have hsz : 0 ≤ size ∧ size ≤ 16777216 := by
      have := HMN.out.symm.trans (HE2.out rfl)
      unfold mayNumber at this
      simpa using this
    have hroom := hasRoom_any own a n fb D1 size w1 hd hfb HR.out HU.out (by omega)
    have HD := Lib.hid hd; have HST := Lib.hid hst; have HG := Lib.hid hg; have HFB := Lib.hid hfb; have HROOM := Lib.hid hroom
    clear hd hst hg hfb hroom
    go_wp2_with fail
    refine HROOM.out.mono ?_
    rintro e w2 ⟨rfl, _, hd2, hst2⟩
    cases hrm : D1.hasRoom n size
    · have HRM := Lib.hid hrm; have HD2 := Lib.hid hd2; have ST2 := Lib.hid (HST.out.trans hst2)
      clear hrm hd2 hst2
      go_wp2
      go_ret
      exact ⟨own, ST2.out, .inr (.inr ⟨rfl, n, 4, _, HG.out, .inl ⟨HRM.out, rfl, rfl⟩, rfl, HD2.out⟩)⟩
    · obtain ⟨m, rfl⟩ : ∃ m : Nat, size = m := ⟨size.toNat, by omega⟩
      have halt : ∀ w0 : World, w0.heap = w2.heap → w0.os = w2.os → w0.tape = w2.tape → w0.output = w2.output → Calls Try.prog 30 #[.pointer (some ⟨fb, 0, none⟩), .func (.func 40) #[.agg #[.int .i64 m]] #[]] w0 fun e w' => e = .returned (.int .i64 ((D1.cont n).more (.cut m))) ∧ w'.cell? ⟨a, 1, none⟩ = some (.int .i64 D1.used) ∧ w'.frozen? ⟨a, 1, none⟩ = false ∧
          ∃ own', Steps own own' w (w'.setCell ⟨a, 1, none⟩ (.int .i64 (D1.used + (D1.cont n).more (.cut m)))) ∧ DiskIs (w'.setCell ⟨a, 1, none⟩ (.int .i64 (D1.used + (D1.cont n).more (.cut m)))) own' a (D1.alterFile n (.cut m)) := fun w0 e1 e2 e3 e4 => by
        have hs0 : Steps own own w2 w0 := ⟨e2, e3, e4, by rw [e1]; exact Nat.le_refl _, fun k _ _ => by rw [e1], fun _ _ => rfl⟩
        have hd0 : DiskIs w0 own a D1 := hd2.turn (fun k _ => by rw [e1]) (by rw [e1]; exact Nat.le_refl _) (fun ms mk mf lv q1 q2 => ⟨ms, mk, mf, lv, by rw [e1]; exact q1, q2⟩)
        refine (alterDisk_any own a n fb D1 _ (.cut m) w0 hd0 HFB.out ⟨rfl, by omega⟩ (HLL.out n)).mono ?_
        rintro e w' ⟨q1, q2, q3, own', q4, q5⟩
        exact ⟨q1, q2, q3, own', ((HST.out.trans hst2).trans hs0).trans q4, q5⟩
      have hx : -1099511627777 ≤ (D1.cont n).more (.cut m) ∧ (D1.cont n).more (.cut m) ≤ 16777217 := by
        have := HLEN.out n
        have e : ((D1.cont n).alter (.cut m)).seen.length = m := by
          show (redoOp allBits (.cut m) 0 (D1.cont n).seen).1.length = m
          show (if allBits 0 then fitL (D1.cont n).seen m else (D1.cont n).seen).length = m
          simp [allBits, fitL_length]
        unfold FileA.more
        rw [e]
        omega
      have hfin : D1.truncate n m 0 (D1.alterFile n (.cut m)) := .inr ⟨hrm, rfl, by simp⟩
      obtain ⟨ms, mk, mf, lv, h1, _⟩ := hd2.out
      have g1 : w2.cell? ⟨a, 1, none⟩ = some (.int .i64 D1.used) := cells_of h1 1
      have HRM := Lib.hid hrm; have HALT := Lib.hid halt; have HFIN := Lib.hid hfin
      obtain ⟨hx1, hx2⟩ := hx
      obtain ⟨hu1, hu2⟩ := HU.out
      generalize (D1.cont n).more (.cut m) = x at *
      have hw : IntKind.i64.wrap (D1.used + x) = D1.used + x := IntWalk.i64_in _ (by omega)
      clear hrm hd2 hst2 halt hfin h1 hx1 hx2 hu1 hu2
      go_wp2
      go_region_with (go_at_call 30; refine (HALT.out _ (by rfl) (by rfl) (by rfl) (by rfl)).mono ?_; rintro e w3 ⟨rfl, k1, k2, k3⟩)
      all_goals
        have K3 := Lib.hid k3
        clear k1 k2 k3
        go_wp2
        go_ret
        obtain ⟨own3, k4, k5⟩ := K3.out
        exact ⟨own3, k4, .inr (.inr ⟨rfl, n, 0, _, HG.out, HFIN.out, rfl, k5⟩)⟩
end Go.Proofs.Ytobhhedggppneaa
