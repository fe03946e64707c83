/- The disk: Truncate. -/
import Derived.Test.YtldkeelgnfegeaaGreatMDskO
import Derived.Deep.AppendLies

namespace Go.Proofs.YtldkeelgnfegeaaGreat
open Go Go.RowKit Go.By

def FileA.alter (F : FileA) (o : ByteOp) : FileA := { F with seen := (redoOp allBits o 0 F.seen).1, laid := F.laid ++ [o] }
def FileA.more (F : FileA) (o : ByteOp) : Int := ((F.alter o).seen.length : Int) - F.seen.length
def DiskA.alterFile (D : DiskA) (n : Nat) (o : ByteOp) : DiskA :=
  { D.withFile n ((D.cont n).alter o) with used := D.used + (D.cont n).more o }
def DiskA.truncate (D : DiskA) (n : Nat) (size : Int) (x : Int) (D2 : DiskA) : Prop :=
  (D.hasRoom n size = false ∧ x = 4 ∧ D2 = D) ∨ (D.hasRoom n size = true ∧ x = 0 ∧ D2 = D.alterFile n (.cut size.toNat))

theorem alterDisk_any (own : Own) (a n fb : Nat) (D : DiskA) (c : Value) (o : ByteOp) (w : World) (h : DiskIs w own a D) (hn : Mp.get D.fm n = some fb) (ho : OpV w own c o) (hl : (D.cont n).laid.length < 1000000) :
    Calls Tryz.prog 50 #[.pointer (some ⟨fb, 0, none⟩), c] w fun e w' => e = .returned (.int .i64 ((D.cont n).more o)) ∧ w'.cell? ⟨a, 1, none⟩ = some (.int .i64 D.used) ∧ w'.frozen? ⟨a, 1, none⟩ = false ∧
      ∃ own', Steps own own' w (w'.setCell ⟨a, 1, none⟩ (.int .i64 (D.used + (D.cont n).more o))) ∧ DiskIs (w'.setCell ⟨a, 1, none⟩ (.int .i64 (D.used + (D.cont n).more o))) own' a (D.alterFile n o) := by
  obtain ⟨ms, mk, mf, lv, h1, h2⟩ := h.out
  refine (alterFile_any own n fb (D.cont n) c o w (h2.each n fb hn) ho h.here hl).mono ?_
  rintro e w' ⟨rfl, own', hf, hs⟩
  have hd := h.filed hn hf hs (by simp)
  obtain ⟨ms', mk', mf', lv', g1, g2⟩ := hd.out
  obtain ⟨q1, q2⟩ := hd.setUsed (D.used + (D.cont n).more o)
  exact ⟨rfl, cells_of g1 1, free_of g1 1, own', hs.steps.trans q2, q1⟩

set_option maxRecDepth 100000 in
set_option maxHeartbeats 200000 in
theorem truncate_any (own : Own) (a : Nat) (D : DiskA) (s : ByteArray) (size : Int) (w : World) (h : DiskIs w own a D) (hk : D.Ok) (ho : D.ops < 4611686018427387904) (hl : D.left < 4611686018427387904) (hs : s.size ≤ maxLen) (hll : ∀ n, (D.cont n).laid.length < 1000000)
    (hr : 0 ≤ D.room ∧ D.room ≤ 9223372036854775807) (hu : 0 ≤ D.used ∧ D.used ≤ 4611686018427387904) (hlen : ∀ n, (D.cont n).seen.length ≤ 1099511627776) :
    Calls Tryz.prog 22 #[.pointer (some ⟨a, 0, none⟩), .string s, .int .i64 size] w (Filed own a (D.begin (mayNumber size && mayName s)).1 (D.begin (mayNumber size && mayName s)).2 s ((D.begin (mayNumber size && mayName s)).1.truncate · size) w) := by
  have hfind := find_any own a D s (mayNumber size) w h hk ho hl hs
  have hsame := D.begin_same (mayNumber size && mayName s)
  have herr2 : (D.begin (mayNumber size && mayName s)).2 = 0 → mayNumber size = true := by
    unfold DiskA.begin
    split
    · intro h; cases h
    · intro h
      cases hm : mayNumber size
      · rw [hm] at h; simp at h
      · rfl
  obtain ⟨D1, hD1⟩ : ∃ D1, D1 = (D.begin (mayNumber size && mayName s)).1 := ⟨_, rfl⟩
  obtain ⟨err, herr⟩ : ∃ err, err = (D.begin (mayNumber size && mayName s)).2 := ⟨_, rfl⟩
  rw [← hD1] at hsame
  rw [← herr] at herr2
  rw [← hD1, ← herr] at hfind ⊢
  obtain ⟨_, _, _, _, hc, hro, hus, _⟩ := hsame
  rw [← hc] at hll hlen
  rw [← hro] at hr
  rw [← hus] at hu
  have HF := Lib.hid hfind; have HLL := Lib.hid hll; have HR := Lib.hid hr; have HU := Lib.hid hu; have HLEN := Lib.hid hlen; have HE2 := Lib.hid herr2
  clear hfind h hk ho hl hD1 herr hc hro hus hll hr hu hlen herr2
  obtain ⟨mn, hmn⟩ : ∃ mn, mn = mayNumber size := ⟨_, rfl⟩
  have hmay := fun w0 => mayNumber_any size w0
  rw [← hmn] at HF HE2 hmay
  have HMN := Lib.hid hmn; have HMAY := Lib.hid hmay
  clear hmn hmay
  go_enter Tryz.func22, Tryz.ntmps22
  go_wp2_with (go_at_call 48; refine (HMAY.out _).mono ?_; rintro e w1 ⟨rfl, rfl⟩)
  refine HF.out.mono ?_
  rintro e w1 ⟨hd, hst, ⟨he, rfl⟩ | ⟨rfl, hg, rfl⟩ | ⟨rfl, n, fb, hg, hfb, rfl⟩⟩
  · have HD := Lib.hid hd; have HST := Lib.hid hst; clear hd hst
    go_wp2
    go_ret
    exact ⟨own, HST.out, .inl ⟨he, rfl, HD.out⟩⟩
  · have HD := Lib.hid hd; have HST := Lib.hid hst; have HG := Lib.hid hg; clear hd hst hg
    go_wp2
    go_ret
    exact ⟨own, HST.out, .inr (.inl ⟨rfl, HG.out, rfl, HD.out⟩)⟩
  · have hsz : 0 ≤ size ∧ size ≤ 16777216 := by
      have := HMN.out.symm.trans (HE2.out rfl)
      unfold mayNumber at this
      simpa using this
    have hroom := hasRoom_any own a n fb D1 size w1 hd hfb HR.out HU.out (by omega)
    have HD := Lib.hid hd; have HST := Lib.hid hst; have HG := Lib.hid hg; have HFB := Lib.hid hfb; have HROOM := Lib.hid hroom
    clear hd hst hg hfb hroom
    go_wp2_with fail
    refine HROOM.out.mono ?_
    rintro e w2 ⟨rfl, _, hd2, hst2⟩
    cases hrm : D1.hasRoom n size
    · have HRM := Lib.hid hrm; have HD2 := Lib.hid hd2; have ST2 := Lib.hid (HST.out.trans hst2)
      clear hrm hd2 hst2
      go_wp2
      go_ret
      exact ⟨own, ST2.out, .inr (.inr ⟨rfl, n, 4, _, HG.out, .inl ⟨HRM.out, rfl, rfl⟩, rfl, HD2.out⟩)⟩
    · obtain ⟨m, rfl⟩ : ∃ m : Nat, size = m := ⟨size.toNat, by omega⟩
      have halt : ∀ w0 : World, w0.heap = w2.heap → w0.os = w2.os → w0.tape = w2.tape → w0.output = w2.output → Calls Tryz.prog 50 #[.pointer (some ⟨fb, 0, none⟩), .func (.func 51) #[.agg #[.int .i64 m]] #[]] w0 fun e w' => e = .returned (.int .i64 ((D1.cont n).more (.cut m))) ∧ w'.cell? ⟨a, 1, none⟩ = some (.int .i64 D1.used) ∧ w'.frozen? ⟨a, 1, none⟩ = false ∧
          ∃ own', Steps own own' w (w'.setCell ⟨a, 1, none⟩ (.int .i64 (D1.used + (D1.cont n).more (.cut m)))) ∧ DiskIs (w'.setCell ⟨a, 1, none⟩ (.int .i64 (D1.used + (D1.cont n).more (.cut m)))) own' a (D1.alterFile n (.cut m)) := fun w0 e1 e2 e3 e4 => by
        have hs0 : Steps own own w2 w0 := ⟨e2, e3, e4, by rw [e1]; exact Nat.le_refl _, fun k _ _ => by rw [e1], fun _ _ => rfl⟩
        have hd0 : DiskIs w0 own a D1 := hd2.turn (fun k _ => by rw [e1]) (by rw [e1]; exact Nat.le_refl _) (fun ms mk mf lv q1 q2 => ⟨ms, mk, mf, lv, by rw [e1]; exact q1, q2⟩)
        refine (alterDisk_any own a n fb D1 _ (.cut m) w0 hd0 HFB.out ⟨rfl, by omega⟩ (HLL.out n)).mono ?_
        rintro e w' ⟨q1, q2, q3, own', q4, q5⟩
        exact ⟨q1, q2, q3, own', ((HST.out.trans hst2).trans hs0).trans q4, q5⟩
      have hx : -1099511627777 ≤ (D1.cont n).more (.cut m) ∧ (D1.cont n).more (.cut m) ≤ 16777217 := by
        have := HLEN.out n
        have e : ((D1.cont n).alter (.cut m)).seen.length = m := by
          show (redoOp allBits (.cut m) 0 (D1.cont n).seen).1.length = m
          show (if allBits 0 then fitL (D1.cont n).seen m else (D1.cont n).seen).length = m
          simp [allBits, fitL_length]
        unfold FileA.more
        rw [e]
        omega
      have hfin : D1.truncate n m 0 (D1.alterFile n (.cut m)) := .inr ⟨hrm, rfl, by simp⟩
      obtain ⟨ms, mk, mf, lv, h1, _⟩ := hd2.out
      have g1 : w2.cell? ⟨a, 1, none⟩ = some (.int .i64 D1.used) := cells_of h1 1
      have HRM := Lib.hid hrm; have HALT := Lib.hid halt; have HFIN := Lib.hid hfin
      obtain ⟨hx1, hx2⟩ := hx
      obtain ⟨hu1, hu2⟩ := HU.out
      generalize (D1.cont n).more (.cut m) = x at *
      have hw : IntKind.i64.wrap (D1.used + x) = D1.used + x := IntWalk.i64_in _ (by omega)
      clear hrm hd2 hst2 halt hfin h1 hx1 hx2 hu1 hu2
      go_wp2
      go_region_with (go_at_call 50; refine (HALT.out _ (by rfl) (by rfl) (by rfl) (by rfl)).mono ?_; rintro e w3 ⟨rfl, k1, k2, k3⟩)
      all_goals
        have K3 := Lib.hid k3
        clear k1 k2 k3
        go_wp2
        go_ret
        obtain ⟨own3, k4, k5⟩ := K3.out
        exact ⟨own3, k4, .inr (.inr ⟨rfl, n, 0, _, HG.out, HFIN.out, rfl, k5⟩)⟩
end Go.Proofs.YtldkeelgnfegeaaGreat

/- The disk: bytes.Clone. -/
namespace Go.Proofs.YtldkeelgnfegeaaGreat
open Go Go.RowKit Go.By

set_option maxRecDepth 100000 in
theorem clone_any (v : Value) (l : List Nat) (w : World) (hv : Bytes w v l) (hl : l.length ≤ 17592186044416) :
    Calls Tryz.prog 33 #[v] w fun e w' => ∃ v', e = .returned v' ∧ w'.ownsRow 0 5 1 v' l.length (cellsOf l) ∧ (∀ k, v'.ownBlock = some k → w.heap.size ≤ k) ∧ Below w.heap.size w w' := by
  obtain ⟨p, cap, rfl, _⟩ := hv.any
  have HV := Lib.hid hv
  clear hv
  have hn : ∀ (q : Option Addr) (n c : Nat) (w0 : World), (binOp .eql 23 (.slice q n c) (.slice none 0 0)).run Tryz.prog w0 = .ok (.bool q.isNone) w0 := fun q n c w0 => Lib.run_eql_slice_nil w0 _ _ q n c 0 0 bytesT.slice
  cases p with
  | none =>
    have hl0 : l = [] := by
      rcases HV.out.out with ⟨_, h⟩ | ⟨a, h, _⟩ | ⟨b, o, c, h, _⟩
      · exact h
      · cases h
      · cases h
    subst hl0
    go_enter Tryz.func33, Tryz.ntmps33
    go_wp2
    go_ret
    exact ⟨_, rfl, World.ownsRow_nil _ _ _ _, fun k hk => (by cases hk), Below.refl _ _⟩
  | some ad =>
    go_enter Tryz.func33, Tryz.ntmps33
    go_wp2_with (at_builtin; refine wpList_append_bytes rfl (.tmp 5) (.tmp 6) bytesT rfl w.heap.size (.slice (some ⟨w.heap.size, 0, none⟩) 0 0) 0 [] rfl (World.ownsRow_made w #[] 0 (Nat.le_refl _) (by decide) rfl) (.slice (some ad) l.length cap) l rfl (HV.out.below ((Below.refl _ _).alloc (Nat.le_refl _) _)) (by omega) (by simp) ?_; intro v1 w1 hown hgrow hnil)
    have hb : Below w.heap.size w w1 := ⟨hgrow.os, hgrow.tape, hgrow.output, by have := hgrow.size; simp at this; omega, fun k hk => (hgrow.block k (by simp; omega) (by simp [Value.ownBlock]; omega)).trans (Below.heap_alloc w _ k hk)⟩
    have hk : ∀ k, v1.ownBlock = some k → w.heap.size ≤ k := fun k hk => by
      rcases hown.2 with ⟨h, _⟩ | ⟨g, c, cur, h, hg, _⟩
      · rw [h] at hk; cases hk
      · rw [h] at hk; cases hk; exact hg
    have hown0 : w1.ownsRow 0 5 1 v1 l.length (cellsOf l) := by
      have h := hown
      rw [Nat.zero_add, List.nil_append] at h
      refine ⟨h.1, ?_⟩
      rcases h.2 with h' | ⟨g, c, cur, h1, _, h3⟩
      · exact .inl h'
      · exact .inr ⟨g, c, cur, h1, Nat.zero_le _, h3⟩
    have HOWN := Lib.hid hown0; have HB := Lib.hid hb; have HK := Lib.hid hk
    obtain ⟨p1, c1, rfl⟩ : ∃ p c, v1 = .slice p l.length c := by
      rcases hown.2 with ⟨h, h2⟩ | ⟨g, c, _, h, _⟩
      · exact ⟨none, 0, by rw [h]; congr 1; omega⟩
      · exact ⟨_, c, by rw [h]; congr 1; omega⟩
    clear hown hgrow hnil hb hk hown0
    go_wp2
    go_ret
    exact ⟨_, rfl, HOWN.out, HK.out, HB.out⟩
end Go.Proofs.YtldkeelgnfegeaaGreat

/- The disk: Write. -/
namespace Go.Proofs.YtldkeelgnfegeaaGreat
open Go Go.RowKit Go.By

theorem putL_length (l : List Nat) (off : Nat) (p : List Nat) : (putL l off p).length = max l.length (off + p.length) := by
  unfold putL
  split
  · rw [overL_length (by rw [fitL_length]; omega), fitL_length]; omega
  · rw [overL_length (by omega)]; omega
theorem redoWrite_length {off : Nat} {b : List Nat} {bit : Nat → Bool} : ∀ (f k i : Nat) (l : List Nat), k ≤ b.length → l.length ≤ (redoWrite off b bit f k i l).1.length ∧ (redoWrite off b bit f k i l).1.length ≤ max l.length (off + b.length)
  | 0, _, _, _, _ => ⟨Nat.le_refl _, Nat.le_max_left _ _⟩
  | f + 1, k, i, l, hk => by
    unfold redoWrite
    split
    · rename_i hlt
      have hp := pieceLen_le off b.length k
      have hp0 := pieceLen_pos (off := off) hlt
      have h := redoWrite_length (off := off) (b := b) (bit := bit) f (k + pieceLen off b.length k) (i + 1) (if bit i then putL l (off + k) ((b.drop k).take (pieceLen off b.length k)) else l) (by omega)
      have hl : ((b.drop k).take (pieceLen off b.length k)).length = pieceLen off b.length k := by simp; omega
      split at h
      · rename_i hb
        rw [putL_length, hl] at h
        rw [if_pos hb]
        exact ⟨by omega, by omega⟩
      · rename_i hb
        rw [if_neg hb]
        exact h
    · exact ⟨Nat.le_refl _, Nat.le_max_left _ _⟩

theorem Bytes.steps {own own' : Own} {w w' : World} {v : Value} {l : List Nat} (h : Bytes w v l) (hs : Steps own own' w w') (hk : ∀ k, v.ownBlock = some k → own k = none ∨ own k = some .ink) : Bytes w' v l where
  out := by
    rcases h.out with h1 | h1 | ⟨b, off, cap, rfl, h2, hc⟩
    · exact .inl h1
    · exact .inr (.inl h1)
    · refine .inr (.inr ⟨b, off, cap, rfl, h2, fun i hi => ?_⟩)
      have := hc i hi
      exact (World.cell?_of_block (hs.block b (block_lt_of_cell this) (hk b rfl))).trans this
  small := h.small
  short := h.short

theorem Bytes.stepsE {own own' : Own} {w w' : World} {v : Value} {l : List Nat} (h : Bytes w v l) (hs : Steps own own' w w') (hk : l ≠ [] → ∀ k, v.ownBlock = some k → own k = none ∨ own k = some .ink) : Bytes w' v l where
  out := by
    rcases h.out with h1 | h1 | ⟨b, off, cap, rfl, h2, hc⟩
    · exact .inl h1
    · exact .inr (.inl h1)
    · refine .inr (.inr ⟨b, off, cap, rfl, h2, fun i hi => ?_⟩)
      have := hc i hi
      exact (World.cell?_of_block (hs.block b (block_lt_of_cell this) (hk (by intro e; subst e; exact absurd hi (Nat.not_lt_zero _)) b rfl))).trans this
  small := h.small
  short := h.short

theorem Bytes.same {w w' : World} {v : Value} {l : List Nat} (h : Bytes w v l) (e : w'.heap = w.heap) : Bytes w' v l where
  out := by
    rcases h.out with h1 | h1 | ⟨b, off, cap, rfl, h2, hc⟩
    · exact .inl h1
    · exact .inr (.inl h1)
    · exact .inr (.inr ⟨b, off, cap, rfl, h2, fun i hi => (World.cell?_of_block (by rw [e])).trans (hc i hi)⟩)
  small := h.small
  short := h.short

/-- A copy of some bytes becomes the disk's ink. -/
theorem inked {own : Own} {w w' : World} {a : Nat} {D : DiskA} {v : Value} {l : List Nat} (h : DiskIs w own a D) (hown : w'.ownsRow 0 5 1 v l.length (cellsOf l)) (hk : ∀ k, v.ownBlock = some k → w.heap.size ≤ k) (hb : Below w.heap.size w w') :
    ∃ own', DiskIs w' own' a D ∧ Steps own own' w w' ∧ ∀ k, v.ownBlock = some k → own' k = some .ink := by
  obtain ⟨o1, a1, a2, a3, a4⟩ := own_went h.here (v := .slice none 0 0) (v' := v) (r := .ink) (w' := w') (fun k hk => by cases hk) (by
    cases e : v.ownBlock with
    | none => exact .inl rfl
    | some q => exact .inr ⟨q, rfl, hk q e⟩) (fun k hk => by
    rcases hown.2 with ⟨e, _⟩ | ⟨g, c, cur, e, _, hg, _⟩
    · rw [e] at hk; cases hk
    · rw [e] at hk; cases hk; exact (Array.getElem?_eq_some_iff.1 hg).1)
  obtain ⟨ms, mk, mf, lv, h1, h2⟩ := h.out
  have hs : Stay own o1 (fun _ => True) w w' := ⟨a2, fun k r hk _ => hb.block k (h.here k r hk)⟩
  refine ⟨o1, ⟨⟨ms, mk, mf, lv, (hs.block a _ h.role trivial).trans h1, h2.stay (hs.weaken fun _ _ => trivial)⟩, a2 a _ h.role, fun k hk => ?_, fun k r hk => ?_⟩, ⟨hb.os, hb.tape, hb.output, hb.size, fun k hk _ => hb.block k hk, a1⟩, a3⟩
  · rcases a4 k _ hk with h' | ⟨_, _, h'⟩
    · exact h.only k h'
    · cases h'
  · rcases a4 k r hk with h' | ⟨_, h', _⟩
    · exact Nat.lt_of_lt_of_le (h.here k r h') hb.size
    · exact h'

def DiskA.write (D : DiskA) (n : Nat) (off : Int) (b : List Nat) (x : Int) (D2 : DiskA) : Prop :=
  (b = [] ∧ x = 0 ∧ D2 = D) ∨ (b ≠ [] ∧ D.hasRoom n (off + b.length) = false ∧ x = 4 ∧ D2 = D) ∨ (b ≠ [] ∧ D.hasRoom n (off + b.length) = true ∧ x = 0 ∧ D2 = D.alterFile n (.write off.toNat b))

theorem same_steps {own : Own} {w w0 : World} (e1 : w0.heap = w.heap) (e2 : w0.os = w.os) (e3 : w0.tape = w.tape) (e4 : w0.output = w.output) : Steps own own w w0 :=
  ⟨e2, e3, e4, by rw [e1]; exact Nat.le_refl _, fun k _ _ => by rw [e1], fun _ _ => rfl⟩
theorem DiskIs.same {own : Own} {w w0 : World} {a : Nat} {D : DiskA} (h : DiskIs w own a D) (e1 : w0.heap = w.heap) : DiskIs w0 own a D :=
  h.turn (fun k _ => by rw [e1]) (by rw [e1]; exact Nat.le_refl _) (fun ms mk mf lv q1 q2 => ⟨ms, mk, mf, lv, by rw [e1]; exact q1, q2⟩)

/-- Behind the copy, the rest of a write. -/
def WriteRest (own : Own) (a n fb : Nat) (D1 : DiskA) (off : Nat) (b : List Nat) (x : Int) (w w4 : World) (v : Value) : Prop :=
  w4.cell? ⟨a, 1, none⟩ = some (.int .i64 D1.used) ∧
  ∀ w0 : World, w0.heap = w4.heap → w0.os = w4.os → w0.tape = w4.tape → w0.output = w4.output → Calls Tryz.prog 50 #[.pointer (some ⟨fb, 0, none⟩), .func (.func 70) #[.agg #[.int .i64 off, v]] #[]] w0 fun e w' => e = .returned (.int .i64 x) ∧
    w'.cell? ⟨a, 1, none⟩ = some (.int .i64 D1.used) ∧ w'.frozen? ⟨a, 1, none⟩ = false ∧
    ∃ own', Steps own own' w (w'.setCell ⟨a, 1, none⟩ (.int .i64 (D1.used + x))) ∧ DiskIs (w'.setCell ⟨a, 1, none⟩ (.int .i64 (D1.used + x))) own' a (D1.alterFile n (.write off b))

theorem write_rest {own : Own} {a n fb : Nat} {D1 : DiskA} {off : Nat} {b : List Nat} {w w2 w3 w4 : World} {v : Value} (hd : DiskIs w2 own a D1) (hst : Steps own own w w2) (hfb : Mp.get D1.fm n = some fb) (hl : (D1.cont n).laid.length < 1000000) (hoff : off ≤ 16777216) (hb0 : 0 < b.length) (hbl : b.length ≤ 1048576) (hs : ∀ c ∈ b, c < 256)
    (e1 : w3.heap = w2.heap) (e2 : w3.os = w2.os) (e3 : w3.tape = w2.tape) (e4 : w3.output = w2.output)
    (hown : w4.ownsRow 0 5 1 v b.length (cellsOf b)) (hk : ∀ k, v.ownBlock = some k → w3.heap.size ≤ k) (hbel : Below w3.heap.size w3 w4) : WriteRest own a n fb D1 off b ((D1.cont n).more (.write off b)) w w4 v := by
  have hd3 := hd.same e1
  obtain ⟨o1, hd4, hs4, hink⟩ := inked hd3 hown hk hbel
  obtain ⟨ms, mk, mf, lv, h1, _⟩ := hd4.out
  refine ⟨cells_of h1 1, fun w0 q1 q2 q3 q4 => ?_⟩
  have hd0 := hd4.same q1
  have ho : OpV w0 o1 (.func (.func 70) #[.agg #[.int .i64 off, v]] #[]) (.write off b) :=
    ⟨v, rfl, Bytes.of_owns (ownsRow_of_heap hown fun k _ => by rw [q1]) hs (by unfold maxLen; omega), hink, hb0, hoff, hbl⟩
  refine (alterDisk_any o1 a n fb D1 _ (.write off b) w0 hd0 hfb ho hl).mono ?_
  rintro e w' ⟨k1, k2, k3, own', k4, k5⟩
  exact ⟨k1, k2, k3, own', (((hst.trans (same_steps e1 e2 e3 e4)).trans hs4).trans (same_steps q1 q2 q3 q4)).trans k4, k5⟩
end Go.Proofs.YtldkeelgnfegeaaGreat
