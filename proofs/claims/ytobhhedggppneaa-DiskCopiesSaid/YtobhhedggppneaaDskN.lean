/- The disk: Sync. -/
import Derived.Test.YtobhhedggppneaaDskM
namespace Go.Proofs.Ytobhhedggppneaa
open Go Go.RowKit Go.By

def DiskA.withFile (D : DiskA) (n : Nat) (F : FileA) : DiskA := { D with cont := fun k => if k = n then F else D.cont k }
theorem DiskA.withFile_ok {D : DiskA} (h : D.Ok) (n : Nat) (F : FileA) : (D.withFile n F).Ok := ⟨h.seenIn, h.keptIn, h.laidIn, h.made⟩
theorem DiskA.used_ok {D : DiskA} (h : D.Ok) (u : Int) : ({ D with used := u } : DiskA).Ok := ⟨h.seenIn, h.keptIn, h.laidIn, h.made⟩
theorem DiskA.begin_ok {D : DiskA} (h : D.Ok) (m : Bool) : (D.begin m).1.Ok := by
  unfold DiskA.begin; split <;> exact ⟨h.seenIn, h.keptIn, h.laidIn, h.made⟩
theorem DiskA.begin_same (D : DiskA) (m : Bool) : (D.begin m).1.seen = D.seen ∧ (D.begin m).1.kept = D.kept ∧ (D.begin m).1.laid = D.laid ∧ (D.begin m).1.fm = D.fm ∧ (D.begin m).1.cont = D.cont ∧ (D.begin m).1.room = D.room ∧ (D.begin m).1.used = D.used ∧ (D.begin m).1.made = D.made ∧ (D.begin m).1.ops = D.ops + 1 ∧ (D.begin m).1.left ≤ D.left := by
  unfold DiskA.begin; split
  · exact ⟨rfl, rfl, rfl, rfl, rfl, rfl, rfl, rfl, rfl, Nat.zero_le _⟩
  · exact ⟨rfl, rfl, rfl, rfl, rfl, rfl, rfl, rfl, rfl, Nat.sub_le _ _⟩

theorem FileStep.keeps {n : Nat} {lb : Option Nat} {own own' : Own} {w w' : World} (hs : FileStep n lb own own' w w') (here : ∀ k r, own k = some r → k < w.heap.size) (hlb : ∀ k r, own k = some r → lb ≠ some k) :
    Stay own own' (fun r => ¬ ofFile n r) w w' := ⟨hs.role, fun k r hk hr => hs.turned.block k (here k r hk) (by
      rintro (⟨r', h1, h2⟩ | h)
      · rw [hk] at h1; cases h1; exact hr h2
      · exact hlb k r hk h)⟩
theorem FileStep.steps {n : Nat} {own own' : Own} {w w' : World} (hs : FileStep n none own own' w w') : Steps own own' w w' :=
  ⟨hs.turned.os, hs.turned.tape, hs.turned.output, hs.turned.size, fun k hk hn => hs.turned.block k hk (by
    rintro (⟨r, h1, h2⟩ | h)
    · rcases hn with hn | hn
      · rw [hn] at h1; cases h1
      · rw [hn] at h1; cases h1; rcases h2 with h | h | h | h <;> cases h
    · cases h), hs.same⟩

theorem DiskIs.filed {w w' : World} {own own' : Own} {a n fb : Nat} {D : DiskA} {F : FileA} {lb : Option Nat} (h : DiskIs w own a D) (hn : Mp.get D.fm n = some fb) (hf : FileIs w' own' n fb F) (hs : FileStep n lb own own' w w') (hlb : ∀ k r, own k = some r → lb ≠ some k) :
    DiskIs w' own' a (D.withFile n F) := by
  have hst := hs.keeps h.here hlb
  obtain ⟨ms, mk, mf, lv, h1, h2⟩ := h.out
  have nf : ∀ r : Role, (∀ m, r ≠ .file m) → (∀ m, r ≠ .fseen m) → (∀ m, r ≠ .fkept m) → (∀ m, r ≠ .flaid m) → ¬ ofFile n r := fun r q1 q2 q3 q4 h => by
    rcases h with h | h | h | h
    · exact q1 n h
    · exact q2 n h
    · exact q3 n h
    · exact q4 n h
  refine ⟨⟨ms, mk, mf, lv, (hst.block a _ h.role (nf _ (by simp) (by simp) (by simp) (by simp))).trans h1, ?_⟩, hs.role a _ h.role, fun k hk => ?_, fun k r hk => ?_⟩
  · refine ⟨h2.seen.stay hst (nf _ (by simp) (by simp) (by simp) (by simp)), h2.kept.stay hst (nf _ (by simp) (by simp) (by simp) (by simp)), ownsRow_of_heap h2.laid fun k hk => hst.block k _ (h2.laidR k hk) (nf _ (by simp) (by simp) (by simp) (by simp)),
      fun k hk => hs.role k _ (h2.laidR k hk), h2.files.stay hst (nf _ (by simp) (by simp) (by simp) (by simp)), fun m fb' hm => ?_, h2.bare, h2.full, h2.bareL⟩
    by_cases he : m = n
    · subst he
      have e : fb = fb' := by
        have hm' : Mp.get D.fm m = some fb' := hm
        rw [hn] at hm'; exact Option.some.inj hm'
      subst e
      show FileIs w' own' m fb (if m = m then F else D.cont m)
      rw [if_pos rfl]; exact hf
    · show FileIs w' own' m fb' (if m = n then F else D.cont m)
      rw [if_neg he]
      have hne : ∀ r, (r = Role.file m ∨ r = .fseen m ∨ r = .fkept m ∨ r = .flaid m ∨ r = .ink) → ¬ ofFile n r := by
        rintro r (rfl | rfl | rfl | rfl | rfl) <;> unfold ofFile <;> simp [he]
      exact (h2.each m fb' hm).stay hst (hne _ (.inl rfl)) (hne _ (.inr (.inl rfl))) (hne _ (.inr (.inr (.inl rfl)))) (hne _ (.inr (.inr (.inr (.inl rfl))))) (hne _ (.inr (.inr (.inr (.inr rfl)))))
  · rcases hs.new k _ hk with h' | ⟨_, _, h' | h'⟩
    · exact h.only k h'
    · exact absurd h' (nf _ (by simp) (by simp) (by simp) (by simp))
    · cases h'
  · rcases hs.new k _ hk with h' | ⟨_, h', _⟩
    · exact Nat.lt_of_lt_of_le (h.here k r h') hs.turned.size
    · exact h'

/-- What an operation on a file tells. -/
def Filed (own : Own) (a : Nat) (D1 : DiskA) (err : Int) (s : ByteArray) (post : Nat → Int → DiskA → Prop) (w : World) (e : Ending) (w' : World) : Prop :=
  ∃ own', Steps own own' w w' ∧ ((err ≠ 0 ∧ e = .returned (.int .i64 err) ∧ DiskIs w' own' a D1) ∨ (err = 0 ∧ Mp.get D1.seen s = none ∧ e = .returned (.int .i64 3) ∧ DiskIs w' own' a D1) ∨
    (err = 0 ∧ ∃ n x D2, Mp.get D1.seen s = some n ∧ post n x D2 ∧ e = .returned (.int .i64 x) ∧ DiskIs w' own' a D2))

def FileA.settle (F : FileA) : FileA := { F with kept := (redoOps allBits F.laid 0 F.kept).1, laid := [] }

set_option maxRecDepth 100000 in
theorem sync_any (own : Own) (a : Nat) (D : DiskA) (s : ByteArray) (w : World) (h : DiskIs w own a D) (hk : D.Ok) (ho : D.ops < 4611686018427387904) (hl : D.left < 4611686018427387904) (hs : s.size ≤ maxLen) (hll : ∀ n, (D.cont n).laid.length ≤ 1000000) :
    Calls Try.prog 12 #[.pointer (some ⟨a, 0, none⟩), .string s] w (Filed own a (D.begin (mayName s)).1 (D.begin (mayName s)).2 s (fun n x D2 => x = 0 ∧ D2 = (D.begin (mayName s)).1.withFile n (D.cont n).settle) w) := by
  have hfind := find_any own a D s true w h hk ho hl hs
  rw [Bool.true_and] at hfind
  obtain ⟨D1, hD1⟩ : ∃ D1, D1 = (D.begin (mayName s)).1 := ⟨_, rfl⟩
  obtain ⟨err, herr⟩ : ∃ err, err = (D.begin (mayName s)).2 := ⟨_, rfl⟩
  have hc : D.cont = D1.cont := by rw [hD1]; exact (D.begin_same _).2.2.2.2.1.symm
  rw [← hD1, ← herr] at hfind ⊢
  rw [hc] at hll ⊢
  have HF := Lib.hid hfind; have HLL := Lib.hid hll
  clear hfind h hk ho hl hD1 herr hc hll
  go_enter Try.func12, Try.ntmps12
  go_wp2_with fail
  refine HF.out.mono ?_
  rintro e w1 ⟨hd, hst, ⟨he, rfl⟩ | ⟨rfl, hg, rfl⟩ | ⟨rfl, n, fb, hg, hfb, rfl⟩⟩
  · have HD := Lib.hid hd; have HST := Lib.hid hst; clear hd hst
    go_wp2
    go_ret
    exact ⟨own, HST.out, .inl ⟨he, rfl, HD.out⟩⟩
  · have HD := Lib.hid hd; have HST := Lib.hid hst; have HG := Lib.hid hg; clear hd hst hg
    go_wp2
    go_ret
    exact ⟨own, HST.out, .inr (.inl ⟨rfl, HG.out, rfl, HD.out⟩)⟩
  · obtain ⟨ms, mk, mf, lv, h1, h2⟩ := hd.out
    have hfile := h2.each n fb hfb
    have hset := settleFile_any all_lasts own n fb 0 (D1.cont n) w1 trivial hfile hd.here (fun _ _ _ h => h) (HLL.out n) (by have := HLL.out n; unfold drawLim; omega)
    have HD := Lib.hid hd; have HST := Lib.hid hst; have HG := Lib.hid hg; have HSET := Lib.hid hset; have HFB := Lib.hid hfb
    clear hd hst hg hset h1 h2 hfile hfb
    go_wp2_with fail
    refine HSET.out.mono ?_
    rintro e w2 ⟨rfl, _, own2, hf2, hs2⟩
    have fin := HD.out.filed HFB.out hf2 hs2 (by simp)
    have FIN := Lib.hid fin; have ST2 := Lib.hid (HST.out.trans hs2.steps)
    clear fin hf2 hs2
    go_wp2
    go_ret
    exact ⟨own2, ST2.out, .inr (.inr ⟨rfl, n, 0, _, HG.out, ⟨rfl, rfl⟩, rfl, FIN.out⟩)⟩
end Go.Proofs.Ytobhhedggppneaa
