/- The disk: Truncate. -/
import Derived.Test.YtajfcnaifegonaaMDskO
import Derived.Deep.AppendLies
namespace Go.Proofs.Ytajfcnaifegonaa
open Go Go.RowKit Go.By
def FileA.alter (F : FileA) (o : ByteOp) : FileA := { F with seen := (redoOp allBits o 0 F.seen).1, laid := F.laid ++ [o] }
def FileA.more (F : FileA) (o : ByteOp) : Int := ((F.alter o).seen.length : Int) - F.seen.length
def DiskA.alterFile (D : DiskA) (n : Nat) (o : ByteOp) : DiskA :=
  { D.withFile n ((D.cont n).alter o) with used := D.used + (D.cont n).more o }
def DiskA.truncate (D : DiskA) (n : Nat) (size : Int) (x : Int) (D2 : DiskA) : Prop :=
  (D.hasRoom n size = false ∧ x = 4 ∧ D2 = D) ∨ (D.hasRoom n size = true ∧ x = 0 ∧ D2 = D.alterFile n (.cut size.toNat))
theorem alterDisk_any (own : Own) (a n fb : Nat) (D : DiskA) (c : Value) (o : ByteOp) (w : World) (h : DiskIs w own a D) (hn : Mp.get D.fm n = some fb) (ho : OpV w own c o) (hl : (D.cont n).laid.length < 1000000) :
    Calls Try.prog 54 #[.pointer (some ⟨fb, 0, none⟩), c] w fun e w' => e = .returned (.int .i64 ((D.cont n).more o)) ∧ w'.cell? ⟨a, 1, none⟩ = some (.int .i64 D.used) ∧ w'.frozen? ⟨a, 1, none⟩ = false ∧
      ∃ own', Steps own own' w (w'.setCell ⟨a, 1, none⟩ (.int .i64 (D.used + (D.cont n).more o))) ∧ DiskIs (w'.setCell ⟨a, 1, none⟩ (.int .i64 (D.used + (D.cont n).more o))) own' a (D.alterFile n o) := by
  obtain ⟨ms, mk, mf, lv, h1, h2⟩ := h.out
  refine (alterFile_any own n fb (D.cont n) c o w (h2.each n fb hn) ho h.here hl).mono ?_
  rintro e w' ⟨rfl, own', hf, hs⟩
  have hd := h.filed hn hf hs (by simp)
  obtain ⟨ms', mk', mf', lv', g1, g2⟩ := hd.out
  obtain ⟨q1, q2⟩ := hd.setUsed (D.used + (D.cont n).more o)
  exact ⟨rfl, cells_of g1 1, free_of g1 1, own', hs.steps.trans q2, q1⟩
set_option maxRecDepth 100000 in
set_option maxHeartbeats 200000 in
theorem truncate_any (own : Own) (a : Nat) (D : DiskA) (s : ByteArray) (size : Int) (w : World) (h : DiskIs w own a D) (hk : D.Ok) (ho : D.ops < 4611686018427387904) (hl : D.left < 4611686018427387904) (hs : s.size ≤ maxLen) (hll : ∀ n, (D.cont n).laid.length < 1000000)
    (hr : 0 ≤ D.room ∧ D.room ≤ 9223372036854775807) (hu : 0 ≤ D.used ∧ D.used ≤ 4611686018427387904) (hlen : ∀ n, (D.cont n).seen.length ≤ 1099511627776) :
    Calls Try.prog 29 #[.pointer (some ⟨a, 0, none⟩), .string s, .int .i64 size] w (Filed own a (D.begin (mayNumber size && mayName s)).1 (D.begin (mayNumber size && mayName s)).2 s ((D.begin (mayNumber size && mayName s)).1.truncate · size) w) := by
  have hfind := find_any own a D s (mayNumber size) w h hk ho hl hs
  have hsame := D.begin_same (mayNumber size && mayName s)
  have herr2 : (D.begin (mayNumber size && mayName s)).2 = 0 → mayNumber size = true := by
    unfold DiskA.begin
    split
    · intro h; cases h
    · intro h
      cases hm : mayNumber size
      · rw [hm] at h; simp at h
      · rfl
  obtain ⟨D1, hD1⟩ : ∃ D1, D1 = (D.begin (mayNumber size && mayName s)).1 := ⟨_, rfl⟩
  obtain ⟨err, herr⟩ : ∃ err, err = (D.begin (mayNumber size && mayName s)).2 := ⟨_, rfl⟩
  rw [← hD1] at hsame
  rw [← herr] at herr2
  rw [← hD1, ← herr] at hfind ⊢
  obtain ⟨_, _, _, _, hc, hro, hus, _⟩ := hsame
  rw [← hc] at hll hlen
  rw [← hro] at hr
  rw [← hus] at hu
  have HF := Lib.hid hfind; have HLL := Lib.hid hll; have HR := Lib.hid hr; have HU := Lib.hid hu; have HLEN := Lib.hid hlen; have HE2 := Lib.hid herr2
  clear hfind h hk ho hl hD1 herr hc hro hus hll hr hu hlen herr2
  obtain ⟨mn, hmn⟩ : ∃ mn, mn = mayNumber size := ⟨_, rfl⟩
  have hmay := fun w0 => mayNumber_any size w0
  rw [← hmn] at HF HE2 hmay
  have HMN := Lib.hid hmn; have HMAY := Lib.hid hmay
  clear hmn hmay
  go_enter Try.func29, Try.ntmps29
  go_wp2_with (go_at_call 47; refine (HMAY.out _).mono ?_; rintro e w1 ⟨rfl, rfl⟩)
  refine HF.out.mono ?_
  rintro e w1 ⟨hd, hst, ⟨he, rfl⟩ | ⟨rfl, hg, rfl⟩ | ⟨rfl, n, fb, hg, hfb, rfl⟩⟩
  · have HD := Lib.hid hd; have HST := Lib.hid hst; clear hd hst
    go_wp2
    go_ret
    exact ⟨own, HST.out, .inl ⟨he, rfl, HD.out⟩⟩
  · have HD := Lib.hid hd; have HST := Lib.hid hst; have HG := Lib.hid hg; clear hd hst hg
    go_wp2
    go_ret
    exact ⟨own, HST.out, .inr (.inl ⟨rfl, HG.out, rfl, HD.out⟩)⟩
  · have hsz : 0 ≤ size ∧ size ≤ 16777216 := by
      have := HMN.out.symm.trans (HE2.out rfl)
      unfold mayNumber at this
      simpa using this
    have hroom := hasRoom_any own a n fb D1 size w1 hd hfb HR.out HU.out (by omega)
    have HD := Lib.hid hd; have HST := Lib.hid hst; have HG := Lib.hid hg; have HFB := Lib.hid hfb; have HROOM := Lib.hid hroom
    clear hd hst hg hfb hroom
    go_wp2_with fail
    refine HROOM.out.mono ?_
    rintro e w2 ⟨rfl, _, hd2, hst2⟩
    cases hrm : D1.hasRoom n size
    · have HRM := Lib.hid hrm; have HD2 := Lib.hid hd2; have ST2 := Lib.hid (HST.out.trans hst2)
      clear hrm hd2 hst2
      go_wp2
      go_ret
      exact ⟨own, ST2.out, .inr (.inr ⟨rfl, n, 4, _, HG.out, .inl ⟨HRM.out, rfl, rfl⟩, rfl, HD2.out⟩)⟩
    · obtain ⟨m, rfl⟩ : ∃ m : Nat, size = m := ⟨size.toNat, by omega⟩
      have halt : ∀ w0 : World, w0.heap = w2.heap → w0.os = w2.os → w0.tape = w2.tape → w0.output = w2.output → Calls Try.prog 54 #[.pointer (some ⟨fb, 0, none⟩), .func (.func 55) #[.agg #[.int .i64 m]] #[]] w0 fun e w' => e = .returned (.int .i64 ((D1.cont n).more (.cut m))) ∧ w'.cell? ⟨a, 1, none⟩ = some (.int .i64 D1.used) ∧ w'.frozen? ⟨a, 1, none⟩ = false ∧
          ∃ own', Steps own own' w (w'.setCell ⟨a, 1, none⟩ (.int .i64 (D1.used + (D1.cont n).more (.cut m)))) ∧ DiskIs (w'.setCell ⟨a, 1, none⟩ (.int .i64 (D1.used + (D1.cont n).more (.cut m)))) own' a (D1.alterFile n (.cut m)) := fun w0 e1 e2 e3 e4 => by
        have hs0 : Steps own own w2 w0 := ⟨e2, e3, e4, by rw [e1]; exact Nat.le_refl _, fun k _ _ => by rw [e1], fun _ _ => rfl⟩
        have hd0 : DiskIs w0 own a D1 := hd2.turn (fun k _ => by rw [e1]) (by rw [e1]; exact Nat.le_refl _) (fun ms mk mf lv q1 q2 => ⟨ms, mk, mf, lv, by rw [e1]; exact q1, q2⟩)
        refine (alterDisk_any own a n fb D1 _ (.cut m) w0 hd0 HFB.out ⟨rfl, by omega⟩ (HLL.out n)).mono ?_
        rintro e w' ⟨q1, q2, q3, own', q4, q5⟩
        exact ⟨q1, q2, q3, own', ((HST.out.trans hst2).trans hs0).trans q4, q5⟩
      have hx : -1099511627777 ≤ (D1.cont n).more (.cut m) ∧ (D1.cont n).more (.cut m) ≤ 16777217 := by
        have := HLEN.out n
        have e : ((D1.cont n).alter (.cut m)).seen.length = m := by
          show (redoOp allBits (.cut m) 0 (D1.cont n).seen).1.length = m
          show (if allBits 0 then fitL (D1.cont n).seen m else (D1.cont n).seen).length = m
          simp [allBits, fitL_length]
        unfold FileA.more
        rw [e]
        omega
      have hfin : D1.truncate n m 0 (D1.alterFile n (.cut m)) := .inr ⟨hrm, rfl, by simp⟩
      obtain ⟨ms, mk, mf, lv, h1, _⟩ := hd2.out
      have g1 : w2.cell? ⟨a, 1, none⟩ = some (.int .i64 D1.used) := cells_of h1 1
      have HRM := Lib.hid hrm; have HALT := Lib.hid halt; have HFIN := Lib.hid hfin
      obtain ⟨hx1, hx2⟩ := hx
      obtain ⟨hu1, hu2⟩ := HU.out
      generalize (D1.cont n).more (.cut m) = x at *
      have hw : IntKind.i64.wrap (D1.used + x) = D1.used + x := IntWalk.i64_in _ (by omega)
      clear hrm hd2 hst2 halt hfin h1 hx1 hx2 hu1 hu2
      go_wp2
      go_region_with (go_at_call 54; refine (HALT.out _ (by rfl) (by rfl) (by rfl) (by rfl)).mono ?_; rintro e w3 ⟨rfl, k1, k2, k3⟩)
      all_goals
        have K3 := Lib.hid k3
        clear k1 k2 k3
        go_wp2
        go_ret
        obtain ⟨own3, k4, k5⟩ := K3.out
        exact ⟨own3, k4, .inr (.inr ⟨rfl, n, 0, _, HG.out, HFIN.out, rfl, k5⟩)⟩
end Go.Proofs.Ytajfcnaifegonaa
/- The disk: bytes.Clone. -/
namespace Go.Proofs.Ytajfcnaifegonaa
open Go Go.RowKit Go.By
set_option maxRecDepth 100000 in
theorem clone_any (v : Value) (l : List Nat) (w : World) (hv : Bytes w v l) (hl : l.length ≤ 17592186044416) :
    Calls Try.prog 38 #[v] w fun e w' => ∃ v', e = .returned v' ∧ w'.ownsRow 0 5 1 v' l.length (cellsOf l) ∧ (∀ k, v'.ownBlock = some k → w.heap.size ≤ k) ∧ Below w.heap.size w w' := by
  obtain ⟨p, cap, rfl, _⟩ := hv.any
  have HV := Lib.hid hv
  clear hv
  have hn : ∀ (q : Option Addr) (n c : Nat) (w0 : World), (binOp .eql 31 (.slice q n c) (.slice none 0 0)).run Try.prog w0 = .ok (.bool q.isNone) w0 := fun q n c w0 => Lib.run_eql_slice_nil w0 _ _ q n c 0 0 bytesT.slice
  cases p with
  | none =>
    have hl0 : l = [] := by
      rcases HV.out.out with ⟨_, h⟩ | ⟨a, h, _⟩ | ⟨b, o, c, h, _⟩
      · exact h
      · cases h
      · cases h
    subst hl0
    go_enter Try.func38, Try.ntmps38
    go_wp2
    go_ret
    exact ⟨_, rfl, World.ownsRow_nil _ _ _ _, fun k hk => (by cases hk), Below.refl _ _⟩
  | some ad =>
    go_enter Try.func38, Try.ntmps38
    go_wp2_with (at_builtin; refine wpList_append_bytes rfl (.tmp 5) (.tmp 6) bytesT rfl w.heap.size (.slice (some ⟨w.heap.size, 0, none⟩) 0 0) 0 [] rfl (World.ownsRow_made w #[] 0 (Nat.le_refl _) (by decide) rfl) (.slice (some ad) l.length cap) l rfl (HV.out.below ((Below.refl _ _).alloc (Nat.le_refl _) _)) (by omega) (by simp) ?_; intro v1 w1 hown hgrow hnil)
    have hb : Below w.heap.size w w1 := ⟨hgrow.os, hgrow.tape, hgrow.output, by have := hgrow.size; simp at this; omega, fun k hk => (hgrow.block k (by simp; omega) (by simp [Value.ownBlock]; omega)).trans (Below.heap_alloc w _ k hk)⟩
    have hk : ∀ k, v1.ownBlock = some k → w.heap.size ≤ k := fun k hk => by
      rcases hown.2 with ⟨h, _⟩ | ⟨g, c, cur, h, hg, _⟩
      · rw [h] at hk; cases hk
      · rw [h] at hk; cases hk; exact hg
    have hown0 : w1.ownsRow 0 5 1 v1 l.length (cellsOf l) := by
      have h := hown
      rw [Nat.zero_add, List.nil_append] at h
      refine ⟨h.1, ?_⟩
      rcases h.2 with h' | ⟨g, c, cur, h1, _, h3⟩
      · exact .inl h'
      · exact .inr ⟨g, c, cur, h1, Nat.zero_le _, h3⟩
    have HOWN := Lib.hid hown0; have HB := Lib.hid hb; have HK := Lib.hid hk
    obtain ⟨p1, c1, rfl⟩ : ∃ p c, v1 = .slice p l.length c := by
      rcases hown.2 with ⟨h, h2⟩ | ⟨g, c, _, h, _⟩
      · exact ⟨none, 0, by rw [h]; congr 1; omega⟩
      · exact ⟨_, c, by rw [h]; congr 1; omega⟩
    clear hown hgrow hnil hb hk hown0
    go_wp2
    go_ret
    exact ⟨_, rfl, HOWN.out, HK.out, HB.out⟩
end Go.Proofs.Ytajfcnaifegonaa
/- The disk: Write. -/
namespace Go.Proofs.Ytajfcnaifegonaa
open Go Go.RowKit Go.By
theorem putL_length (l : List Nat) (off : Nat) (p : List Nat) : (putL l off p).length = max l.length (off + p.length) := by
  unfold putL
  split
  · rw [overL_length (by rw [fitL_length]; omega), fitL_length]; omega
  · rw [overL_length (by omega)]; omega
theorem redoWrite_length {off : Nat} {b : List Nat} {bit : Nat → Bool} : ∀ (f k i : Nat) (l : List Nat), k ≤ b.length → l.length ≤ (redoWrite off b bit f k i l).1.length ∧ (redoWrite off b bit f k i l).1.length ≤ max l.length (off + b.length)
  | 0, _, _, _, _ => ⟨Nat.le_refl _, Nat.le_max_left _ _⟩
  | f + 1, k, i, l, hk => by
    unfold redoWrite
    split
    · rename_i hlt
      have hp := pieceLen_le off b.length k
      have hp0 := pieceLen_pos (off := off) hlt
      have h := redoWrite_length (off := off) (b := b) (bit := bit) f (k + pieceLen off b.length k) (i + 1) (if bit i then putL l (off + k) ((b.drop k).take (pieceLen off b.length k)) else l) (by omega)
      have hl : ((b.drop k).take (pieceLen off b.length k)).length = pieceLen off b.length k := by simp; omega
      split at h
      · rename_i hb
        rw [putL_length, hl] at h
        rw [if_pos hb]
        exact ⟨by omega, by omega⟩
      · rename_i hb
        rw [if_neg hb]
        exact h
    · exact ⟨Nat.le_refl _, Nat.le_max_left _ _⟩
theorem Bytes.steps {own own' : Own} {w w' : World} {v : Value} {l : List Nat} (h : Bytes w v l) (hs : Steps own own' w w') (hk : ∀ k, v.ownBlock = some k → own k = none ∨ own k = some .ink) : Bytes w' v l where
  out := by
    rcases h.out with h1 | h1 | ⟨b, off, cap, rfl, h2, hc⟩
    · exact .inl h1
    · exact .inr (.inl h1)
    · refine .inr (.inr ⟨b, off, cap, rfl, h2, fun i hi => ?_⟩)
      have := hc i hi
      exact (World.cell?_of_block (hs.block b (block_lt_of_cell this) (hk b rfl))).trans this
  small := h.small
  short := h.short
theorem Bytes.stepsE {own own' : Own} {w w' : World} {v : Value} {l : List Nat} (h : Bytes w v l) (hs : Steps own own' w w') (hk : l ≠ [] → ∀ k, v.ownBlock = some k → own k = none ∨ own k = some .ink) : Bytes w' v l where
  out := by
    rcases h.out with h1 | h1 | ⟨b, off, cap, rfl, h2, hc⟩
    · exact .inl h1
    · exact .inr (.inl h1)
    · refine .inr (.inr ⟨b, off, cap, rfl, h2, fun i hi => ?_⟩)
      have := hc i hi
      exact (World.cell?_of_block (hs.block b (block_lt_of_cell this) (hk (by intro e; subst e; exact absurd hi (Nat.not_lt_zero _)) b rfl))).trans this
  small := h.small
  short := h.short
theorem Bytes.same {w w' : World} {v : Value} {l : List Nat} (h : Bytes w v l) (e : w'.heap = w.heap) : Bytes w' v l where
  out := by
    rcases h.out with h1 | h1 | ⟨b, off, cap, rfl, h2, hc⟩
    · exact .inl h1
    · exact .inr (.inl h1)
    · exact .inr (.inr ⟨b, off, cap, rfl, h2, fun i hi => (World.cell?_of_block (by rw [e])).trans (hc i hi)⟩)
  small := h.small
  short := h.short
theorem inked {own : Own} {w w' : World} {a : Nat} {D : DiskA} {v : Value} {l : List Nat} (h : DiskIs w own a D) (hown : w'.ownsRow 0 5 1 v l.length (cellsOf l)) (hk : ∀ k, v.ownBlock = some k → w.heap.size ≤ k) (hb : Below w.heap.size w w') :
    ∃ own', DiskIs w' own' a D ∧ Steps own own' w w' ∧ ∀ k, v.ownBlock = some k → own' k = some .ink := by
  obtain ⟨o1, a1, a2, a3, a4⟩ := own_went h.here (v := .slice none 0 0) (v' := v) (r := .ink) (w' := w') (fun k hk => by cases hk) (by
    cases e : v.ownBlock with
    | none => exact .inl rfl
    | some q => exact .inr ⟨q, rfl, hk q e⟩) (fun k hk => by
    rcases hown.2 with ⟨e, _⟩ | ⟨g, c, cur, e, _, hg, _⟩
    · rw [e] at hk; cases hk
    · rw [e] at hk; cases hk; exact (Array.getElem?_eq_some_iff.1 hg).1)
  obtain ⟨ms, mk, mf, lv, h1, h2⟩ := h.out
  have hs : Stay own o1 (fun _ => True) w w' := ⟨a2, fun k r hk _ => hb.block k (h.here k r hk)⟩
  refine ⟨o1, ⟨⟨ms, mk, mf, lv, (hs.block a _ h.role trivial).trans h1, h2.stay (hs.weaken fun _ _ => trivial)⟩, a2 a _ h.role, fun k hk => ?_, fun k r hk => ?_⟩, ⟨hb.os, hb.tape, hb.output, hb.size, fun k hk _ => hb.block k hk, a1⟩, a3⟩
  · rcases a4 k _ hk with h' | ⟨_, _, h'⟩
    · exact h.only k h'
    · cases h'
  · rcases a4 k r hk with h' | ⟨_, h', _⟩
    · exact Nat.lt_of_lt_of_le (h.here k r h') hb.size
    · exact h'
def DiskA.write (D : DiskA) (n : Nat) (off : Int) (b : List Nat) (x : Int) (D2 : DiskA) : Prop :=
  (b = [] ∧ x = 0 ∧ D2 = D) ∨ (b ≠ [] ∧ D.hasRoom n (off + b.length) = false ∧ x = 4 ∧ D2 = D) ∨ (b ≠ [] ∧ D.hasRoom n (off + b.length) = true ∧ x = 0 ∧ D2 = D.alterFile n (.write off.toNat b))
theorem same_steps {own : Own} {w w0 : World} (e1 : w0.heap = w.heap) (e2 : w0.os = w.os) (e3 : w0.tape = w.tape) (e4 : w0.output = w.output) : Steps own own w w0 :=
  ⟨e2, e3, e4, by rw [e1]; exact Nat.le_refl _, fun k _ _ => by rw [e1], fun _ _ => rfl⟩
theorem DiskIs.same {own : Own} {w w0 : World} {a : Nat} {D : DiskA} (h : DiskIs w own a D) (e1 : w0.heap = w.heap) : DiskIs w0 own a D :=
  h.turn (fun k _ => by rw [e1]) (by rw [e1]; exact Nat.le_refl _) (fun ms mk mf lv q1 q2 => ⟨ms, mk, mf, lv, by rw [e1]; exact q1, q2⟩)
def WriteRest (own : Own) (a n fb : Nat) (D1 : DiskA) (off : Nat) (b : List Nat) (x : Int) (w w4 : World) (v : Value) : Prop :=
  w4.cell? ⟨a, 1, none⟩ = some (.int .i64 D1.used) ∧
  ∀ w0 : World, w0.heap = w4.heap → w0.os = w4.os → w0.tape = w4.tape → w0.output = w4.output → Calls Try.prog 54 #[.pointer (some ⟨fb, 0, none⟩), .func (.func 76) #[.agg #[.int .i64 off, v]] #[]] w0 fun e w' => e = .returned (.int .i64 x) ∧
    w'.cell? ⟨a, 1, none⟩ = some (.int .i64 D1.used) ∧ w'.frozen? ⟨a, 1, none⟩ = false ∧
    ∃ own', Steps own own' w (w'.setCell ⟨a, 1, none⟩ (.int .i64 (D1.used + x))) ∧ DiskIs (w'.setCell ⟨a, 1, none⟩ (.int .i64 (D1.used + x))) own' a (D1.alterFile n (.write off b))
theorem write_rest {own : Own} {a n fb : Nat} {D1 : DiskA} {off : Nat} {b : List Nat} {w w2 w3 w4 : World} {v : Value} (hd : DiskIs w2 own a D1) (hst : Steps own own w w2) (hfb : Mp.get D1.fm n = some fb) (hl : (D1.cont n).laid.length < 1000000) (hoff : off ≤ 16777216) (hb0 : 0 < b.length) (hbl : b.length ≤ 1048576) (hs : ∀ c ∈ b, c < 256)
    (e1 : w3.heap = w2.heap) (e2 : w3.os = w2.os) (e3 : w3.tape = w2.tape) (e4 : w3.output = w2.output)
    (hown : w4.ownsRow 0 5 1 v b.length (cellsOf b)) (hk : ∀ k, v.ownBlock = some k → w3.heap.size ≤ k) (hbel : Below w3.heap.size w3 w4) : WriteRest own a n fb D1 off b ((D1.cont n).more (.write off b)) w w4 v := by
  have hd3 := hd.same e1
  obtain ⟨o1, hd4, hs4, hink⟩ := inked hd3 hown hk hbel
  obtain ⟨ms, mk, mf, lv, h1, _⟩ := hd4.out
  refine ⟨cells_of h1 1, fun w0 q1 q2 q3 q4 => ?_⟩
  have hd0 := hd4.same q1
  have ho : OpV w0 o1 (.func (.func 76) #[.agg #[.int .i64 off, v]] #[]) (.write off b) :=
    ⟨v, rfl, Bytes.of_owns (ownsRow_of_heap hown fun k _ => by rw [q1]) hs (by unfold maxLen; omega), hink, hb0, hoff, hbl⟩
  refine (alterDisk_any o1 a n fb D1 _ (.write off b) w0 hd0 hfb ho hl).mono ?_
  rintro e w' ⟨k1, k2, k3, own', k4, k5⟩
  exact ⟨k1, k2, k3, own', (((hst.trans (same_steps e1 e2 e3 e4)).trans hs4).trans (same_steps q1 q2 q3 q4)).trans k4, k5⟩
end Go.Proofs.Ytajfcnaifegonaa
/- The disk: Write. -/
namespace Go.Proofs.Ytajfcnaifegonaa
open Go Go.RowKit Go.By
set_option maxRecDepth 100000 in
set_option maxHeartbeats 8000000 in
theorem write_any (own : Own) (a : Nat) (D : DiskA) (s : ByteArray) (off : Int) (bv : Value) (b : List Nat) (w : World) (h : DiskIs w own a D) (hk : D.Ok) (ho : D.ops < 4611686018427387904) (hl : D.left < 4611686018427387904) (hs : s.size ≤ maxLen) (hll : ∀ n, (D.cont n).laid.length < 1000000)
    (hr : 0 ≤ D.room ∧ D.room ≤ 9223372036854775807) (hu : 0 ≤ D.used ∧ D.used ≤ 4611686018427387904) (hlen : ∀ n, (D.cont n).seen.length ≤ 1099511627776) (hb : Bytes w bv b) (hbk : b ≠ [] → ∀ k, bv.ownBlock = some k → own k = none ∨ own k = some .ink) (hbl : b.length ≤ 1048576) :
    Calls Try.prog 59 #[.pointer (some ⟨a, 0, none⟩), .string s, .int .i64 off, bv] w (Filed own a (D.begin (mayNumber off && mayName s)).1 (D.begin (mayNumber off && mayName s)).2 s ((D.begin (mayNumber off && mayName s)).1.write · off b) w) := by
  have hfind := find_any own a D s (mayNumber off) w h hk ho hl hs
  have hsame := D.begin_same (mayNumber off && mayName s)
  have herr2 : (D.begin (mayNumber off && mayName s)).2 = 0 → mayNumber off = true := by
    unfold DiskA.begin
    split
    · intro h; cases h
    · intro h
      cases hm : mayNumber off
      · rw [hm] at h; simp at h
      · rfl
  obtain ⟨D1, hD1⟩ : ∃ D1, D1 = (D.begin (mayNumber off && mayName s)).1 := ⟨_, rfl⟩
  obtain ⟨err, herr⟩ : ∃ err, err = (D.begin (mayNumber off && mayName s)).2 := ⟨_, rfl⟩
  rw [← hD1] at hsame
  rw [← herr] at herr2
  rw [← hD1, ← herr] at hfind ⊢
  obtain ⟨_, _, _, _, hc, hro, hus, _⟩ := hsame
  rw [← hc] at hll hlen
  rw [← hro] at hr
  rw [← hus] at hu
  have HF := Lib.hid hfind; have HLL := Lib.hid hll; have HR := Lib.hid hr; have HU := Lib.hid hu; have HLEN := Lib.hid hlen; have HE2 := Lib.hid herr2
  clear hfind h hk ho hl hD1 herr hc hro hus hll hr hu hlen herr2
  obtain ⟨mn, hmn⟩ : ∃ mn, mn = mayNumber off := ⟨_, rfl⟩
  have hmay := fun w0 => mayNumber_any off w0
  rw [← hmn] at HF HE2 hmay
  have HMN := Lib.hid hmn; have HMAY := Lib.hid hmay
  clear hmn hmay
  obtain ⟨p, cap, rfl, _⟩ := hb.any
  have HB := Lib.hid hb; have HBK := Lib.hid hbk; have HBL := Lib.hid hbl
  clear hb hbk
  go_enter Try.func59, Try.ntmps59
  go_wp2_with (go_at_call 47; refine (HMAY.out _).mono ?_; rintro e w1 ⟨rfl, rfl⟩)
  refine HF.out.mono ?_
  rintro e w1 ⟨hd, hst, ⟨he, rfl⟩ | ⟨rfl, hg, rfl⟩ | ⟨rfl, n, fb, hg, hfb, rfl⟩⟩
  · have HD := Lib.hid hd; have HST := Lib.hid hst; clear hd hst
    go_wp2
    go_ret
    exact ⟨own, HST.out, .inl ⟨he, rfl, HD.out⟩⟩
  · have HD := Lib.hid hd; have HST := Lib.hid hst; have HG := Lib.hid hg; clear hd hst hg
    go_wp2
    go_ret
    exact ⟨own, HST.out, .inr (.inl ⟨rfl, HG.out, rfl, HD.out⟩)⟩
  · have hsz : 0 ≤ off ∧ off ≤ 16777216 := by
      have := HMN.out.symm.trans (HE2.out rfl)
      unfold mayNumber at this
      simpa using this
    have hb1 := Bytes.stepsE HB.out hst HBK.out
    have HB1 := Lib.hid hb1
    clear hb1
    by_cases hb0 : b.length = 0
    · have e : b = [] := List.eq_nil_of_length_eq_zero hb0
      have HD := Lib.hid hd; have HST := Lib.hid hst; have HG := Lib.hid hg; have HE := Lib.hid e
      clear hd hst hg e hfb
      have hd2 : decide ((b.length : Int) = 0) = true := by simp [hb0]
      go_wp2
      go_ret
      exact ⟨own, HST.out, .inr (.inr ⟨rfl, n, 0, D1, HG.out, .inl ⟨HE.out, rfl, rfl⟩, rfl, HD.out⟩)⟩
    · obtain ⟨m, rfl⟩ : ∃ m : Nat, off = m := ⟨off.toNat, by omega⟩
      have hne : b ≠ [] := fun e => hb0 (by rw [e]; rfl)
      have hb0i : ¬ (b.length : Int) = 0 := by omega
      have hd2 : decide ((b.length : Int) = 0) = false := by simp [hb0]
      have hbl1 : b.length ≤ 1048576 := HBL.out
      have hroom := hasRoom_any own a n fb D1 ((m : Int) + b.length) w1 hd hfb HR.out HU.out (by omega)
      have hw0 : IntKind.i64.wrap ((m : Int) + b.length) = (m : Int) + b.length := IntWalk.i64_in _ (by omega)
      have HD := Lib.hid hd; have HST := Lib.hid hst; have HG := Lib.hid hg; have HFB := Lib.hid hfb; have HROOM := Lib.hid hroom; have HNE := Lib.hid hne; have HSZ := Lib.hid hsz
      clear hd hst hg hfb hroom hne
      go_wp2_with fail
      refine HROOM.out.mono ?_
      rintro e w2 ⟨rfl, _, hd2', hst2⟩
      cases hrm : D1.hasRoom n ((m : Int) + b.length)
      · have HRM := Lib.hid hrm; have HD2 := Lib.hid hd2'; have ST2 := Lib.hid (HST.out.trans hst2)
        clear hrm hd2' hst2
        go_wp2
        go_ret
        exact ⟨own, ST2.out, .inr (.inr ⟨rfl, n, 4, _, HG.out, .inr (.inl ⟨HNE.out, HRM.out, rfl, rfl⟩), rfl, HD2.out⟩)⟩
      · obtain ⟨ms, mk, mf, lv, h1, _⟩ := hd2'.out
        have g1 : w2.cell? ⟨a, 1, none⟩ = some (.int .i64 D1.used) := cells_of h1 1
        have hb2 := Bytes.stepsE HB1.out hst2 HBK.out
        have hrest : ∀ (w3 w4 : World) (v : Value), w3.heap = w2.heap → w3.os = w2.os → w3.tape = w2.tape → w3.output = w2.output → w4.ownsRow 0 5 1 v b.length (cellsOf b) → (∀ k, v.ownBlock = some k → w3.heap.size ≤ k) → Below w3.heap.size w3 w4 →
            WriteRest own a n fb D1 m b ((D1.cont n).more (.write m b)) w w4 v := fun w3 w4 v e1 e2 e3 e4 q1 q2 q3 => write_rest hd2' (HST.out.trans hst2) HFB.out (HLL.out n) (by omega) (by omega) hbl1 hb2.small e1 e2 e3 e4 q1 q2 q3
        have hclone : ∀ w3 : World, w3.heap = w2.heap → Calls Try.prog 38 #[.slice p b.length cap] w3 fun e w' => ∃ p' c', e = .returned (.slice p' b.length c') ∧ w'.ownsRow 0 5 1 (.slice p' b.length c') b.length (cellsOf b) ∧ (∀ k, (Value.slice p' b.length c').ownBlock = some k → w3.heap.size ≤ k) ∧ Below w3.heap.size w3 w' := fun w3 e1 => (clone_any _ b w3 (Bytes.same hb2 e1) (by omega)).mono (by
          rintro e w' ⟨v', rfl, q1, q2, q3⟩
          rcases q1.2 with ⟨h, h2⟩ | ⟨g, c, cur, h, h3⟩
          · exact ⟨none, 0, by rw [h, h2], by rw [h, h2] at q1; rw [h2]; exact q1, fun k hk => (by cases hk), q3⟩
          · subst h; exact ⟨_, _, rfl, q1, q2, q3⟩)
        have hx : 0 ≤ (D1.cont n).more (.write m b) ∧ (D1.cont n).more (.write m b) ≤ 1099511627776 := by
          have h1 := HLEN.out n
          have h2 := redoWrite_length (off := m) (b := b) (bit := allBits) b.length 0 0 (D1.cont n).seen (Nat.zero_le _)
          have e : ((D1.cont n).alter (.write m b)).seen = (redoWrite m b allBits b.length 0 0 (D1.cont n).seen).1 := rfl
          unfold FileA.more
          rw [e]
          omega
        have hfin : D1.write n m b 0 (D1.alterFile n (.write m b)) := .inr (.inr ⟨HNE.out, hrm, rfl, by simp⟩)
        have HREST := Lib.hid hrest; have HCL := Lib.hid hclone; have HFIN := Lib.hid hfin
        obtain ⟨hx1, hx2⟩ := hx
        obtain ⟨hu1, hu2⟩ := HU.out
        generalize (D1.cont n).more (.write m b) = x at *
        have hw : IntKind.i64.wrap (D1.used + x) = D1.used + x := IntWalk.i64_in _ (by omega)
        clear hrm hd2' hst2 hrest hclone hfin h1 hx1 hx2 hu1 hu2 hb2 hw0
        go_wp2
        go_region_with (first
          | (go_at_call 38; refine (HCL.out _ (by rfl)).mono ?_; rintro e w4 ⟨p4, c4, rfl, k1, k2, k3⟩; obtain ⟨k5, k6⟩ := HREST.out _ _ _ (by rfl) (by rfl) (by rfl) (by rfl) k1 k2 k3; have HK6 := Lib.hid k6; clear k6 k1 k2 k3)
          | (go_at_call 54; refine (HK6.out _ (by rfl) (by rfl) (by rfl) (by rfl)).mono ?_; rintro e w5 ⟨rfl, k7, k8, k9⟩; have K9 := Lib.hid k9; clear k9))
        all_goals
          go_wp2
          go_ret
          obtain ⟨own3, k4, k5⟩ := K9.out
          exact ⟨own3, k4, .inr (.inr ⟨rfl, n, 0, _, HG.out, HFIN.out, rfl, k5⟩)⟩
end Go.Proofs.Ytajfcnaifegonaa
/- The disk: Read. -/
namespace Go.Proofs.Ytajfcnaifegonaa
open Go Go.RowKit Go.By
theorem diskT_size (w : World) : (sizeOf (Try.prog.elem 31)).run Try.prog w = .ok 1 w := by kernel_rfl
theorem cut_run {w : World} {p : Option Addr} {cap : Nat} {l : List Nat} (h : Bytes w (.slice p l.length cap) l) (i n : Nat) (hn : i + n ≤ l.length) :
    ∃ q c, (∀ w0 : World, (Instr.slice 31 (.slice p l.length cap) (some (.int .i64 (i : Int))) (some (.int .i64 ((i : Int) + (n : Int)))) none).run Try.prog w0 = .ok (.slice q n c) w0) ∧ Bytes w (.slice q n c) ((l.drop i).take n) := by
  have hcap := h.room.2
  have hr := fun w0 => run_slice_lh (P := Try.prog) w0 31 p l.length cap (by kernel_rfl) .i64 .i64 (i : Int) ((i : Int) + (n : Int)) (by omega) (by omega) (by omega)
  have e1 : ((i : Int) + (n : Int)).toNat = i + n := by omega
  have e2 : (i : Int).toNat = i := by omega
  simp only [diskT_size, Result.andThen, e1, e2, sliced, Nat.add_sub_cancel_left, Nat.mul_one] at hr
  refine ⟨_, _, hr, ?_⟩
  have hpl : ((l.drop i).take n).length = n := by simp; omega
  have hps : ∀ c ∈ (l.drop i).take n, c < 256 := fun c hc => h.small c (List.mem_of_mem_drop (List.mem_of_mem_take hc))
  rcases h.out with ⟨h1, rfl⟩ | ⟨a, h1, rfl⟩ | ⟨b, off, cap', h1, h2, hc⟩
  · simp only [Value.slice.injEq] at h1
    obtain ⟨rfl, _, rfl⟩ := h1
    simp only [List.length_nil] at hn
    obtain rfl : i = 0 := by omega
    obtain rfl : n = 0 := by omega
    simpa using Bytes.nil w
  · simp only [Value.slice.injEq] at h1
    obtain ⟨rfl, _, rfl⟩ := h1
    simp only [List.length_nil] at hn
    obtain rfl : i = 0 := by omega
    obtain rfl : n = 0 := by omega
    simp only [↓reduceIte, Nat.sub_zero, List.drop_nil, List.take_nil]
    exact ⟨.inr (.inl ⟨a, rfl, rfl⟩), by simp, by simp⟩
  · simp only [Value.slice.injEq, true_and] at h1
    obtain ⟨rfl, rfl⟩ := h1
    by_cases he : cap = i
    · obtain rfl : n = 0 := by omega
      rw [if_pos he]
      subst he
      simp only [Nat.sub_self, List.take_zero]
      exact ⟨.inr (.inl ⟨_, rfl, rfl⟩), by simp, by simp⟩
    · rw [if_neg he]
      refine ⟨.inr (.inr ⟨b, off + i, cap - i, by simp [Addr.add_lit, hpl], by rw [hpl]; omega, fun j hj => ?_⟩), hps, by rw [hpl]; have := h.short; omega⟩
      rw [hpl] at hj
      rw [Nat.add_assoc, hc (i + j) (by omega), atB_take hj]
      simp only [atB, List.getD_eq_getElem?_getD, List.getElem?_drop]
def ReadOut (own : Own) (a : Nat) (D1 : DiskA) (err : Int) (s : ByteArray) (off n : Int) (w : World) (e : Ending) (w' : World) : Prop :=
  Steps own own w w' ∧ DiskIs w' own a D1 ∧
   ((err ≠ 0 ∧ e = .returned (.tuple #[.slice none 0 0, .int .i64 err])) ∨ (err = 0 ∧ Mp.get D1.seen s = none ∧ e = .returned (.tuple #[.slice none 0 0, .int .i64 3])) ∨
    (err = 0 ∧ 0 ≤ off ∧ 0 ≤ n ∧ ∃ k, Mp.get D1.seen s = some k ∧
      ((((D1.cont k).seen.length : Int) < off + n ∧ e = .returned (.tuple #[.slice none 0 0, .int .i64 2])) ∨
       (off + n ≤ ((D1.cont k).seen.length : Int) ∧ ∃ v, e = .returned (.tuple #[v, .int .i64 0]) ∧ w'.ownsRow w.heap.size 5 1 v n.toNat (cellsOf (((D1.cont k).seen.drop off.toNat).take n.toNat))))))
set_option maxRecDepth 100000 in
set_option maxHeartbeats 4000000 in
theorem read_any (own : Own) (a : Nat) (D : DiskA) (s : ByteArray) (off n : Int) (w : World) (h : DiskIs w own a D) (hk : D.Ok) (ho : D.ops < 4611686018427387904) (hl : D.left < 4611686018427387904) (hs : s.size ≤ maxLen) (hlen : ∀ n, (D.cont n).seen.length ≤ 1099511627776) :
    Calls Try.prog 27 #[.pointer (some ⟨a, 0, none⟩), .string s, .int .i64 off, .int .i64 n] w (ReadOut own a (D.begin ((mayNumber off && mayNumber n) && mayName s)).1 (D.begin ((mayNumber off && mayNumber n) && mayName s)).2 s off n w) := by
  have hfind := find_any own a D s (mayNumber off && mayNumber n) w h hk ho hl hs
  have hsame := D.begin_same ((mayNumber off && mayNumber n) && mayName s)
  have herr2 : (D.begin ((mayNumber off && mayNumber n) && mayName s)).2 = 0 → mayNumber off = true ∧ mayNumber n = true := by
    unfold DiskA.begin
    split
    · intro h; cases h
    · intro h
      cases hm : mayNumber off
      · rw [hm] at h; simp at h
      · cases hm2 : mayNumber n
        · rw [hm, hm2] at h; simp at h
        · exact ⟨rfl, rfl⟩
  obtain ⟨D1, hD1⟩ : ∃ D1, D1 = (D.begin ((mayNumber off && mayNumber n) && mayName s)).1 := ⟨_, rfl⟩
  obtain ⟨err, herr⟩ : ∃ err, err = (D.begin ((mayNumber off && mayNumber n) && mayName s)).2 := ⟨_, rfl⟩
  rw [← hD1] at hsame
  rw [← herr] at herr2
  rw [← hD1, ← herr] at hfind ⊢
  obtain ⟨_, _, _, _, hc, _⟩ := hsame
  rw [← hc] at hlen
  have HF := Lib.hid hfind; have HLEN := Lib.hid hlen; have HE2 := Lib.hid herr2
  clear hfind h hk ho hl hD1 herr hc hlen herr2
  have hmo := fun w0 => mayNumber_any off w0
  have hmn := fun w0 => mayNumber_any n w0
  have hb : (mayNumber off = true → 0 ≤ off ∧ off ≤ 16777216) ∧ (mayNumber n = true → 0 ≤ n ∧ n ≤ 16777216) := by
    unfold mayNumber; simp
  have HNB := Lib.hid hb
  clear hb
  obtain ⟨mo, hmo2⟩ : ∃ mn, mn = mayNumber off := ⟨_, rfl⟩
  obtain ⟨mn, hmn2⟩ : ∃ mn, mn = mayNumber n := ⟨_, rfl⟩
  rw [← hmo2] at HF HE2 hmo HNB
  rw [← hmn2] at HF HE2 hmn HNB
  have HMO := Lib.hid hmo; have HMN := Lib.hid hmn
  clear hmo hmn hmo2 hmn2
  cases mo
  case false =>
    go_enter Try.func27, Try.ntmps27
    go_wp2_with (go_at_call 47; first | (refine (HMO.out _).mono ?_; rintro e w1 ⟨rfl, rfl⟩) | (refine (HMN.out _).mono ?_; rintro e w1 ⟨rfl, rfl⟩))
    simp only [Bool.false_and] at HF
    refine HF.out.mono ?_
    rintro e w1 ⟨hd, hst, ⟨he, rfl⟩ | ⟨rfl, hg, rfl⟩ | ⟨rfl, k, fb, hg, hfb, rfl⟩⟩
    · have HD := Lib.hid hd; have HST := Lib.hid hst; clear hd hst
      go_wp2
      go_ret2
      exact ⟨HST.out, HD.out, .inl ⟨he, rfl⟩⟩
    · exact absurd (HE2.out rfl).1 (by decide)
    · exact absurd (HE2.out rfl).1 (by decide)
  case true =>
    go_enter Try.func27, Try.ntmps27
    go_wp2_with (go_at_call 47; first | (refine (HMO.out _).mono ?_; rintro e w1 ⟨rfl, rfl⟩) | (refine (HMN.out _).mono ?_; rintro e w1 ⟨rfl, rfl⟩))
    simp only [Bool.true_and] at HF
    refine HF.out.mono ?_
    rintro e w1 ⟨hd, hst, ⟨he, rfl⟩ | ⟨rfl, hg, rfl⟩ | ⟨rfl, k, fb, hg, hfb, rfl⟩⟩
    · have HD := Lib.hid hd; have HST := Lib.hid hst; clear hd hst
      go_wp2
      go_ret2
      exact ⟨HST.out, HD.out, .inl ⟨he, rfl⟩⟩
    · have HD := Lib.hid hd; have HST := Lib.hid hst; have HG := Lib.hid hg; clear hd hst hg
      go_wp2
      go_ret2
      exact ⟨HST.out, HD.out, .inr (.inl ⟨rfl, HG.out, rfl⟩)⟩
    · obtain ⟨o1, o2⟩ := HNB.out.1 (by trivial)
      obtain ⟨n1, n2⟩ := HNB.out.2 (by first | exact (HE2.out rfl).2 | simpa using (HE2.out rfl).2)
      obtain ⟨ms, mk, mf, lv, h1, h2⟩ := hd.out
      obtain ⟨⟨sv, kv, flv, cs, g1, g2, _⟩, _⟩ := h2.each k fb hfb
      have c0 : w1.cell? ⟨fb, 0, none⟩ = some sv := cells_of g1 0
      have hL := HLEN.out k
      have hby : Bytes w1 sv (D1.cont k).seen := g2.bytes (by unfold maxLen; omega)
      generalize hS : (D1.cont k).seen = S at *
      obtain ⟨p, cap, rfl, _⟩ := hby.any
      have wr : IntKind.i64.wrap (off + n) = off + n := IntWalk.i64_in _ (by omega)
      by_cases hlt : (S.length : Int) < off + n
      · have HD := Lib.hid hd; have HST := Lib.hid hst; have HG := Lib.hid hg
        clear hd hst hg h1 h2 g1 g2 hfb
        go_wp2
        go_ret2
        exact ⟨HST.out, HD.out, .inr (.inr ⟨rfl, o1, n1, k, HG.out, .inl ⟨by rw [hS]; exact hlt, rfl⟩⟩)⟩
      · obtain ⟨i, rfl⟩ : ∃ i : Nat, off = i := ⟨off.toNat, by omega⟩
        obtain ⟨m, rfl⟩ : ∃ m : Nat, n = m := ⟨n.toNat, by omega⟩
        obtain ⟨q, c, hrun, hby2⟩ := cut_run hby i m (by omega)
        have hpl : ((S.drop i).take m).length = m := by simp; omega
        have HCL := Lib.hid (clone_any _ _ w1 hby2 (by rw [hpl]; omega))
        have HD := Lib.hid hd; have HST := Lib.hid hst; have HG := Lib.hid hg
        clear hd hst hg h1 h2 g1 g2 hfb hby hby2
        go_wp2_with fail
        refine HCL.out.mono ?_
        rintro e w2 ⟨v, rfl, hown, hkk, hb2⟩
        have hown2 : w2.ownsRow w.heap.size 5 1 v m (cellsOf ((S.drop i).take m)) := by
          rw [hpl] at hown
          refine ⟨hown.1, ?_⟩
          rcases hown.2 with h | ⟨g, c, cur, h1, _, h3⟩
          · exact .inl h
          · exact .inr ⟨g, c, cur, h1, Nat.le_trans HST.out.size (hkk g (by rw [h1]; rfl)), h3⟩
        have hd2 := HD.out.beside (o1 := fun _ => none) (o2 := fun _ => none) (Steps.of_below hb2) (fun _ _ _ => .inl rfl)
        have HO := Lib.hid hown2; have HD2 := Lib.hid hd2; have HST2 := Lib.hid (HST.out.trans (Steps.of_below hb2))
        clear hown hkk hb2 hown2 hd2 hrun
        go_wp2
        go_ret2
        exact ⟨HST2.out, HD2.out, .inr (.inr ⟨rfl, o1, n1, k, HG.out, .inr ⟨by rw [hS]; omega, v, rfl, by rw [hS]; exact HO.out⟩⟩)⟩
end Go.Proofs.Ytajfcnaifegonaa
/- The disk as a file sees it: what each operation makes of it, as functions; the numbers of its tables are left out. -/
namespace Go.Proofs.Ytajfcnaifegonaa
open Go Go.RowKit Go.By
structure Sk where
  room : Int
  used : Int
  ops : Nat
  left : Nat
  made : Nat
  seen : List (ByteArray × Nat)
  kept : List (ByteArray × Nat)
  laid : List NameOp
  cont : Nat → FileA
def DiskA.sk (D : DiskA) : Sk := ⟨D.room, D.used, D.ops, D.left, D.made, D.seen, D.kept, D.laid, D.cont⟩
def Sk.tick (S : Sk) : Sk := { S with ops := S.ops + 1, left := S.left - 1 }
def Sk.err (S : Sk) (may : Bool) : Int := if S.left = 1 then 5 else if may then 0 else 1
theorem sk_begin (D : DiskA) (m : Bool) : (D.begin m).1.sk = D.sk.tick ∧ (D.begin m).2 = D.sk.err m := by
  unfold DiskA.begin Sk.err
  by_cases h : D.left = 1
  · rw [if_pos h, if_pos (show D.sk.left = 1 from h)]
    refine ⟨?_, rfl⟩
    show (⟨D.room, D.used, D.ops + 1, 0, D.made, D.seen, D.kept, D.laid, D.cont⟩ : Sk) = ⟨D.room, D.used, D.ops + 1, D.left - 1, D.made, D.seen, D.kept, D.laid, D.cont⟩
    rw [h]
  · rw [if_neg h, if_neg (show ¬ D.sk.left = 1 from h)]
    exact ⟨rfl, rfl⟩
def Sk.hasRoom (S : Sk) (n : Nat) (size : Int) : Bool := decide (size - ((S.cont n).seen.length : Int) ≤ 0) || decide (size - ((S.cont n).seen.length : Int) ≤ S.room - S.used)
def Sk.withFile (S : Sk) (n : Nat) (F : FileA) : Sk := { S with cont := fun k => if k = n then F else S.cont k }
def Sk.alterFile (S : Sk) (n : Nat) (o : ByteOp) : Sk := { S.withFile n ((S.cont n).alter o) with used := S.used + (S.cont n).more o }
def Sk.onFile (S : Sk) (s : ByteArray) (may : Bool) (f : Sk → Nat → Sk × Int) : Sk × Int :=
  if S.err (may && mayName s) ≠ 0 then (S.tick, S.err (may && mayName s)) else
    match Mp.get S.seen s with
    | none => (S.tick, 3)
    | some n => f S.tick n
def Sk.writeAt (off : Int) (b : List Nat) (T : Sk) (n : Nat) : Sk × Int :=
  if b = [] then (T, 0) else if T.hasRoom n (off + b.length) then (T.alterFile n (.write off.toNat b), 0) else (T, 4)
def Sk.cutAt (size : Int) (T : Sk) (n : Nat) : Sk × Int := if T.hasRoom n size then (T.alterFile n (.cut size.toNat), 0) else (T, 4)
def Sk.write (S : Sk) (s : ByteArray) (off : Int) (b : List Nat) : Sk × Int := S.onFile s (mayNumber off) (Sk.writeAt off b)
def Sk.truncate (S : Sk) (s : ByteArray) (size : Int) : Sk × Int := S.onFile s (mayNumber size) (Sk.cutAt size)
def Sk.create (S : Sk) (s : ByteArray) : Sk × Int :=
  if S.err (mayName s) ≠ 0 then (S.tick, S.err (mayName s)) else if (Mp.get S.seen s).isSome then (S.tick, 8) else
    ({ S.tick.withFile (S.made + 1) ⟨[], [], []⟩ with made := S.made + 1, seen := Mp.put S.seen s (S.made + 1), laid := S.laid ++ [.create s (S.made + 1)] }, 0)
def Sk.size (S : Sk) (s : ByteArray) : Option Nat := (Mp.get S.seen s).map fun n => (S.cont n).seen.length
def Sk.read (S : Sk) (s : ByteArray) (off n : Int) : List Nat × Int :=
  if S.err ((mayNumber off && mayNumber n) && mayName s) ≠ 0 then ([], S.err ((mayNumber off && mayNumber n) && mayName s)) else
    match Mp.get S.seen s with
    | none => ([], 3)
    | some k => if ((S.cont k).seen.length : Int) < off + n then ([], 2) else (((S.cont k).seen.drop off.toNat).take n.toNat, 0)
structure Sk.Fine (S : Sk) : Prop where
  ops : S.ops < 4611686018427387904
  left : S.left < 4611686018427387904
  made : S.made < 1000000
  laid : S.laid.length < 1000000
  few : ∀ n, (S.cont n).laid.length < 1000000
  short : ∀ n, (S.cont n).seen.length ≤ 1099511627776
  room : 0 ≤ S.room ∧ S.room ≤ 9223372036854775807
  used : 0 ≤ S.used ∧ S.used ≤ 4611686018427387904
structure Dsk (W : World) (a : Nat) (S : Sk) (own : Own) (w : World) : Prop where
  out : ∃ D, DiskIs w own a D ∧ D.Ok ∧ D.sk = S
  far : ∀ k r, own k = some r → W.heap.size ≤ k
  below : Below W.heap.size W w
theorem Dsk.here {W w : World} {a : Nat} {S : Sk} {own : Own} (h : Dsk W a S own w) : ∀ k r, own k = some r → k < w.heap.size := let ⟨_, hd, _⟩ := h.out; hd.here
theorem Dsk.role {W w : World} {a : Nat} {S : Sk} {own : Own} (h : Dsk W a S own w) : own a = some .disk := let ⟨_, hd, _⟩ := h.out; hd.role
theorem Dsk.new_none {W w : World} {a : Nat} {S : Sk} {own : Own} (h : Dsk W a S own w) {k : Nat} (hk : w.heap.size ≤ k) : own k = none := by
  cases e : own k with
  | none => rfl
  | some r => have := h.here k r e; omega
theorem Dsk.of_steps {W w w' : World} {a : Nat} {S S' : Sk} {own own' : Own} (h : Dsk W a S own w) (hs : Steps own own' w w') (ho : ∃ D, DiskIs w' own' a D ∧ D.Ok ∧ D.sk = S') : Dsk W a S' own' w' := by
  refine ⟨ho, fun k r hk => ?_, h.below.trans (hs.below h.below.size h.far)⟩
  by_cases hl : k < w.heap.size
  · rw [hs.same k hl] at hk; exact h.far k r hk
  · have := h.below.size; omega
theorem Dsk.stay {W w w' : World} {a : Nat} {S : Sk} {own : Own} (h : Dsk W a S own w) (hb : Below w.heap.size w w') : Dsk W a S own w' := by
  refine h.of_steps (Steps.of_below hb) ?_
  obtain ⟨D, hd, hok, e⟩ := h.out
  exact ⟨D, hd.beside (o1 := fun _ => none) (o2 := fun _ => none) (Steps.of_below hb) (fun _ _ _ => .inl rfl), hok, e⟩
theorem Dsk.set {W w : World} {a : Nat} {S : Sk} {own : Own} (h : Dsk W a S own w) {g : Nat} (hn : own g = none) (hf : W.heap.size ≤ g) (j : Nat) (v : Value) : Dsk W a S own (w.setCell ⟨g, j, none⟩ v) := by
  have hst : Steps (fun k => if k = g then some .disk else none) (fun k => if k = g then some .disk else none) w (w.setCell ⟨g, j, none⟩ v) :=
    ⟨rfl, rfl, rfl, by simp [World.setCell], fun k _ ho => by
      have hne : k ≠ g := by
        intro e; subst e
        rw [if_pos rfl] at ho
        rcases ho with h | h <;> cases h
      exact Below.heap_setCell _ _ _ _ hne, fun _ _ => rfl⟩
  obtain ⟨D, hd, hok, e⟩ := h.out
  exact ⟨⟨D, hd.beside hst (fun k r hr => .inl (if_neg (by intro e; subst e; rw [hn] at hr; cases hr))), hok, e⟩, h.far, h.below.setCell hf v⟩
theorem Dsk.new {w w' : World} {R : Int} (hd : DiskIs w' (fun k => if k = w.heap.size then some .disk else none) w.heap.size (DiskA.new R)) (hb : Below w.heap.size w w') :
    Dsk w w.heap.size (DiskA.new R).sk (fun k => if k = w.heap.size then some .disk else none) w' :=
  ⟨⟨_, hd, DiskA.new_ok R, rfl⟩, fun k r hk => (by
    have hk' : (if k = w.heap.size then some Role.disk else none) = some r := hk
    split at hk'
    · omega
    · cases hk'), hb⟩
theorem filed_sk {W w w' : World} {a : Nat} {D : DiskA} {own : Own} {s : ByteArray} {m : Bool} {e : Ending} {f : Sk → Nat → Sk × Int} {post : Nat → Int → DiskA → Prop} (h : Dsk W a D.sk own w) (hok : D.Ok)
    (hp : ∀ n x D2, Mp.get (D.begin (m && mayName s)).1.seen s = some n → post n x D2 → D2.Ok ∧ (D2.sk, x) = f D.sk.tick n)
    (hc : Filed own a (D.begin (m && mayName s)).1 (D.begin (m && mayName s)).2 s post w e w') :
    e = .returned (.int .i64 (D.sk.onFile s m f).2) ∧ ∃ own', Steps own own' w w' ∧ Dsk W a (D.sk.onFile s m f).1 own' w' := by
  obtain ⟨own', hs, hc⟩ := hc
  obtain ⟨e1, e2⟩ := sk_begin D (m && mayName s)
  have e3 : (D.begin (m && mayName s)).1.seen = D.sk.seen := congrArg Sk.seen e1
  have hok1 := DiskA.begin_ok hok (m && mayName s)
  unfold Sk.onFile
  rcases hc with ⟨h1, rfl, hd⟩ | ⟨h1, h2, rfl, hd⟩ | ⟨h1, n, x, D2, h2, h3, rfl, hd⟩
  · rw [e2] at h1 ⊢
    rw [if_pos h1]
    exact ⟨rfl, own', hs, h.of_steps hs ⟨_, hd, hok1, e1⟩⟩
  · rw [e2] at h1
    rw [e3] at h2
    rw [if_neg (by rw [h1]; decide), h2]
    exact ⟨rfl, own', hs, h.of_steps hs ⟨_, hd, hok1, e1⟩⟩
  · obtain ⟨h4, h5⟩ := hp n x D2 h2 h3
    rw [e2] at h1
    rw [e3] at h2
    rw [if_neg (by rw [h1]; decide), h2]
    dsimp only
    rw [← h5]
    exact ⟨rfl, own', hs, h.of_steps hs ⟨_, hd, h4, rfl⟩⟩
theorem Dsk.write {W w : World} {a : Nat} {S : Sk} {own : Own} (h : Dsk W a S own w) (hF : S.Fine) (s : ByteArray) (hs : s.size ≤ maxLen) (off : Int) {bv : Value} {b : List Nat} (hb : Bytes w bv b) (hbk : b ≠ [] → ∀ k, bv.ownBlock = some k → own k = none ∨ own k = some .ink) (hbl : b.length ≤ 1048576) :
    Calls Try.prog 59 #[.pointer (some ⟨a, 0, none⟩), .string s, .int .i64 off, bv] w fun e w' => e = .returned (.int .i64 (S.write s off b).2) ∧ ∃ own', Steps own own' w w' ∧ Dsk W a (S.write s off b).1 own' w' := by
  have h0 := h
  obtain ⟨D, hd, hok, rfl⟩ := h.out
  refine (write_any own a D s off bv b w hd hok hF.ops hF.left hs hF.few hF.room hF.used hF.short hb hbk hbl).mono fun e w' hc => filed_sk h0 hok (fun n x D2 _ hp => ?_) hc
  obtain ⟨e1, _⟩ := sk_begin D (mayNumber off && mayName s)
  have hok1 := DiskA.begin_ok hok (mayNumber off && mayName s)
  generalize (D.begin (mayNumber off && mayName s)).1 = D1 at *
  rw [← e1]
  unfold Sk.writeAt
  rcases hp with ⟨rfl, rfl, rfl⟩ | ⟨h1, h2, rfl, rfl⟩ | ⟨h1, h2, rfl, rfl⟩
  · exact ⟨hok1, by rw [if_pos rfl]⟩
  · exact ⟨hok1, by rw [if_neg h1, if_neg (by rw [show D2.sk.hasRoom n (off + b.length) = D2.hasRoom n (off + b.length) from rfl, h2]; decide)]⟩
  · exact ⟨DiskA.used_ok (DiskA.withFile_ok hok1 _ _) _, by rw [if_neg h1, if_pos (show D1.sk.hasRoom n (off + b.length) = true from h2)]; rfl⟩
theorem Dsk.truncate {W w : World} {a : Nat} {S : Sk} {own : Own} (h : Dsk W a S own w) (hF : S.Fine) (s : ByteArray) (hs : s.size ≤ maxLen) (size : Int) :
    Calls Try.prog 29 #[.pointer (some ⟨a, 0, none⟩), .string s, .int .i64 size] w fun e w' => e = .returned (.int .i64 (S.truncate s size).2) ∧ ∃ own', Steps own own' w w' ∧ Dsk W a (S.truncate s size).1 own' w' := by
  have h0 := h
  obtain ⟨D, hd, hok, rfl⟩ := h.out
  refine (truncate_any own a D s size w hd hok hF.ops hF.left hs hF.few hF.room hF.used hF.short).mono fun e w' hc => filed_sk h0 hok (fun n x D2 _ hp => ?_) hc
  obtain ⟨e1, _⟩ := sk_begin D (mayNumber size && mayName s)
  have hok1 := DiskA.begin_ok hok (mayNumber size && mayName s)
  generalize (D.begin (mayNumber size && mayName s)).1 = D1 at *
  rw [← e1]
  unfold Sk.cutAt
  rcases hp with ⟨h2, rfl, rfl⟩ | ⟨h2, rfl, rfl⟩
  · exact ⟨hok1, by rw [if_neg (by rw [show D2.sk.hasRoom n size = D2.hasRoom n size from rfl, h2]; decide)]⟩
  · exact ⟨DiskA.used_ok (DiskA.withFile_ok hok1 _ _) _, by rw [if_pos (show D1.sk.hasRoom n size = true from h2)]; rfl⟩
theorem made_ok {D : DiskA} (h : D.Ok) (s : ByteArray) (fb : Nat) : (D.create s fb).Ok := by
  have hfm : ∀ n, (Mp.get (Mp.put D.fm (D.made + 1) fb) n).isSome = true ↔ n = D.made + 1 ∨ (Mp.get D.fm n).isSome = true := fun n => by
    rw [Mp.get_put]
    by_cases e : D.made + 1 = n
    · subst e; simp
    · rw [if_neg e]
      constructor
      · exact .inr
      · rintro (h | h)
        · exact absurd h.symm e
        · exact h
  refine ⟨fun t n hn => ?_, fun t n hn => ?_, fun t n hn => ?_, fun n hn => ?_⟩
  · refine (hfm n).2 ?_
    have hn' : Mp.get (Mp.put D.seen s (D.made + 1)) t = some n := hn
    rw [Mp.get_put] at hn'
    split at hn'
    · cases hn'; exact .inl rfl
    · exact .inr (h.seenIn t n hn')
  · exact (hfm n).2 (.inr (h.keptIn t n hn))
  · refine (hfm n).2 ?_
    have hn' : NameOp.create t n ∈ D.laid ++ [.create s (D.made + 1)] := hn
    rcases List.mem_append.1 hn' with h1 | h1
    · exact .inr (h.laidIn t n h1)
    · rw [List.mem_singleton] at h1
      cases h1; exact .inl rfl
  · have hn' := (hfm n).1 hn
    show n ≤ D.made + 1
    rcases hn' with h1 | h1
    · omega
    · have := h.made n h1; omega
theorem Dsk.create {W w : World} {a : Nat} {S : Sk} {own : Own} (h : Dsk W a S own w) (hF : S.Fine) (s : ByteArray) (hs : s.size ≤ maxLen) :
    Calls Try.prog 28 #[.pointer (some ⟨a, 0, none⟩), .string s] w fun e w' => e = .returned (.int .i64 (S.create s).2) ∧ ∃ own', Steps own own' w w' ∧ Dsk W a (S.create s).1 own' w' := by
  obtain ⟨D, hd, hok, rfl⟩ := h.out
  refine (create_any own a D s w hd hok hF.ops hF.left hs hF.laid hF.made).mono ?_
  rintro e w' ⟨own', hst, hc⟩
  obtain ⟨e1, e2⟩ := sk_begin D (mayName s)
  have hok1 := DiskA.begin_ok hok (mayName s)
  have hseen : D.seen = D.sk.seen := rfl
  unfold Sk.create
  rcases hc with ⟨h1, rfl, hd'⟩ | ⟨h1, h2, rfl, hd'⟩ | ⟨h1, h2, rfl, fb, hd'⟩
  · rw [e2] at h1 ⊢
    rw [if_pos h1]
    exact ⟨rfl, own', hst, h.of_steps hst ⟨_, hd', hok1, e1⟩⟩
  · rw [e2] at h1
    rw [hseen] at h2
    rw [if_neg (by rw [h1]; decide), if_pos h2]
    exact ⟨rfl, own', hst, h.of_steps hst ⟨_, hd', hok1, e1⟩⟩
  · rw [e2] at h1
    rw [hseen] at h2
    rw [if_neg (by rw [h1]; decide), if_neg (by rw [h2]; decide)]
    refine ⟨rfl, own', hst, h.of_steps hst ⟨_, hd', made_ok hok1 _ _, ?_⟩⟩
    have q := fun (f : Sk → Sk) => congrArg f e1
    generalize (D.begin (mayName s)).1 = D1 at *
    have r : ((D1.create s fb).sk) = { D1.sk.withFile (D1.sk.made + 1) ⟨[], [], []⟩ with made := D1.sk.made + 1, seen := Mp.put D1.sk.seen s (D1.sk.made + 1), laid := D1.sk.laid ++ [.create s (D1.sk.made + 1)] } := rfl
    rw [r, e1]; rfl
theorem Dsk.size {W w : World} {a : Nat} {S : Sk} {own : Own} (h : Dsk W a S own w) (s : ByteArray) :
    Calls Try.prog 26 #[.pointer (some ⟨a, 0, none⟩), .string s] w fun e w' => e = .returned (sizeV (S.size s)) ∧ w = w' := by
  obtain ⟨D, hd, hok, rfl⟩ := h.out
  exact size_any own a D s w hd hok
theorem Dsk.read {W w : World} {a : Nat} {S : Sk} {own : Own} (h : Dsk W a S own w) (hF : S.Fine) (s : ByteArray) (hs : s.size ≤ maxLen) (off n : Int) :
    Calls Try.prog 27 #[.pointer (some ⟨a, 0, none⟩), .string s, .int .i64 off, .int .i64 n] w fun e w' => ∃ p c, e = .returned (.tuple #[.slice p (S.read s off n).1.length c, .int .i64 (S.read s off n).2]) ∧
      w'.ownsRow w.heap.size 5 1 (.slice p (S.read s off n).1.length c) (S.read s off n).1.length (cellsOf (S.read s off n).1) ∧ ((S.read s off n).2 ≠ 0 → p = none ∧ c = 0) ∧ Steps own own w w' ∧ Dsk W a S.tick own w' := by
  obtain ⟨D, hd, hok, rfl⟩ := h.out
  refine (read_any own a D s off n w hd hok hF.ops hF.left hs hF.short).mono ?_
  rintro e w' ⟨hst, hd', hc⟩
  obtain ⟨e1, e2⟩ := sk_begin D ((mayNumber off && mayNumber n) && mayName s)
  have hok1 := DiskA.begin_ok hok ((mayNumber off && mayNumber n) && mayName s)
  have hD := h.of_steps hst ⟨_, hd', hok1, e1⟩
  have e3 : (D.begin ((mayNumber off && mayNumber n) && mayName s)).1.seen = D.sk.seen := congrArg Sk.seen e1
  have e4 : (D.begin ((mayNumber off && mayNumber n) && mayName s)).1.cont = D.sk.cont := congrArg Sk.cont e1
  rw [e2, e3, e4] at hc
  unfold Sk.read
  rcases hc with ⟨h1, rfl⟩ | ⟨h1, h2, rfl⟩ | ⟨h1, h2, h3, k, h4, h5⟩
  · rw [if_pos h1]
    exact ⟨none, 0, rfl, World.ownsRow_nil _ _ _ _, fun _ => ⟨rfl, rfl⟩, hst, hD⟩
  · rw [if_neg (by rw [h1]; decide), h2]
    exact ⟨none, 0, rfl, World.ownsRow_nil _ _ _ _, fun _ => ⟨rfl, rfl⟩, hst, hD⟩
  · rw [if_neg (by rw [h1]; decide), h4]
    dsimp only
    rcases h5 with ⟨h6, rfl⟩ | ⟨h6, v, rfl, hown⟩
    · rw [if_pos h6]
      exact ⟨none, 0, rfl, World.ownsRow_nil _ _ _ _, fun _ => ⟨rfl, rfl⟩, hst, hD⟩
    · rw [if_neg (by omega)]
      dsimp only
      have hl : (((D.sk.cont k).seen.drop off.toNat).take n.toNat).length = n.toNat := by simp; omega
      rw [← hl] at hown
      have hsh : ∃ p c, v = .slice p (((D.sk.cont k).seen.drop off.toNat).take n.toNat).length c := by
        rcases hown.2 with ⟨h, h2⟩ | ⟨g, c, _, h, _⟩
        · exact ⟨none, 0, by rw [h, h2]⟩
        · exact ⟨_, c, h⟩
      obtain ⟨p, c, rfl⟩ := hsh
      rw [hl] at hown
      rw [hl]
      exact ⟨p, c, rfl, hown, fun h => absurd rfl h, hst, hD⟩
end Go.Proofs.Ytajfcnaifegonaa
