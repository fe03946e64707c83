/- The law DiskSynced: every call of it returns true, and all that was there before the call is as it was. No condition. -/
import Derived.Test.YtleikjmomkdhoaaRows
import Derived.Test.YtleikjmomkdhoaaSyC
import Derived.Test.YtleikjmomkdhoaaLight
import Derived.Test.YtleikjmomkdhoaaAbsM
import Derived.Test.YtleikjmomkdhoaaLaw
import Derived.Deep.QuietTactic
import Derived.BigQuiet
import Derived.Handy
namespace Go.Proofs.Ytleikjmomkdhoaa
open Go Go.ChangeShapes Go.WideShapes Go.ChangeAt Go.RowKit Go.By

def noughts (n : Nat) : Array Value := (cellsOf (List.replicate n 0)).toArray
theorem noughts_run (n : Nat) (hn : n ≤ 1000000) (w : World) : (Instr.makeSlice 23 (.int .i64 (n : Int)) (.int .i64 (n : Int))).run Try.prog w = .ok (.slice (some ⟨w.heap.size, 0, none⟩) n n) (w.alloc (.cells (noughts n) 5)) := by
  obtain ⟨i, hi, hz, hz1, hz2⟩ := info_parts bytesT.info
  have h := run_makeSlice (P := Try.prog) (w := w) 23 5 i (.int .u8 0) bytesT.slice hi hz .i64 .i64 (n : Int) (n : Int) (by omega) (Int.le_refl _) (by rw [hz1]; simp; omega) (by rw [hz2]; omega) (by omega)
  rw [h]
  have e : madeCells (Value.int .u8 0).cells ((n : Int).toNat * i.size) = noughts n := by
    rw [hz1]
    apply Array.toList_inj.1
    apply List.ext_getElem
    · simp [madeCells, cellsOf, noughts]
    · intro j h1 h2
      simp [madeCells, cellsOf, noughts, Value.cells, Nat.mod_one]
  rw [e]; simp

/-- A row of 4000 cells of the law's own. -/
structure Row4 (W : World) (wb : Nat) (t : TypeId) (g : Nat → Value) (own : Own) (w : World) : Prop where
  cells : ∃ cur, w.heap[wb]? = some (.cells cur t (0, 0)) ∧ cur.size = 4000 ∧ ∀ k, k < 4000 → cur[k]? = some (g k)
  free : own wb = none
  far : W.heap.size ≤ wb
def byteAt (f : Nat → Nat) (k : Nat) : Value := .int .u8 (f k : Nat)

theorem and_1023 (n : Int) : Go.bits .and .i64 n 1023 = n % 1024 := by
  have h127 : (BitVec.ofInt 64 1023).toNat = 2 ^ 10 - 1 := by decide
  have key : (BitVec.ofInt 64 n &&& BitVec.ofInt 64 1023).toNat = (n % ((2 ^ 64 : Nat) : Int)).toNat % 2 ^ 10 := by
    rw [BitVec.toNat_and, BitVec.toNat_ofInt, h127, Nat.and_two_pow_sub_one_eq_mod]
  show IntKind.i64.wrap ((BitVec.ofInt 64 n &&& BitVec.ofInt 64 1023).toNat : Nat) = n % 1024
  rw [key, IntKind.wrap_i64]
  omega
theorem old_none {W w : World} {v : Value} {l : List Nat} {own : Own} (hb : Bytes w v l) (hw : w.heap.size ≤ W.heap.size) (far : ∀ k r, own k = some r → W.heap.size ≤ k) : l ≠ [] → ∀ k, v.ownBlock = some k → own k = none := by
  intro hne k hk
  rcases hb.out with ⟨_, h1⟩ | ⟨_, _, h1⟩ | ⟨b, off, cap, h1, h2, hc⟩
  · exact absurd h1 hne
  · exact absurd h1 hne
  · have hkb : b = k := by rw [h1] at hk; simpa [Value.ownBlock] using hk
    subst hkb
    have hl : 0 < l.length := List.length_pos_iff.2 hne
    have hlt : b < w.heap.size := block_lt_of_cell (hc 0 hl)
    cases e : own b with
    | none => rfl
    | some r => have := far b r e; omega
theorem Row4.steps {W w w' : World} {wb : Nat} {t : TypeId} {g : Nat → Value} {own own' : Own} (h : Row4 W wb t g own w) (hs : Steps own own' w w') : Row4 W wb t g own' w' := by
  obtain ⟨cur, h1, h2, h3⟩ := h.cells
  have hlt : wb < w.heap.size := (Array.getElem?_eq_some_iff.1 h1).1
  exact ⟨⟨cur, (hs.block wb hlt (.inl h.free)).trans h1, h2, h3⟩, (hs.same wb hlt).trans h.free, h.far⟩
theorem Row4.cell {W w : World} {wb : Nat} {t : TypeId} {g : Nat → Value} {own : Own} (h : Row4 W wb t g own w) {k : Nat} (hk : k < 4000) : w.cell? ⟨wb, k, none⟩ = some (g k) ∧ w.frozen? ⟨wb, k, none⟩ = false := by
  obtain ⟨cur, h1, h2, h3⟩ := h.cells
  refine ⟨?_, free_of h1 k⟩
  rw [cells_of h1, h3 k hk]
theorem Row4.set {W w : World} {wb : Nat} {t : TypeId} {g : Nat → Value} {own : Own} (h : Row4 W wb t g own w) {j : Nat} (hj : j < 4000) (v : Value) {g' : Nat → Value} (hg : ∀ k, g' k = if k = j then v else g k) : Row4 W wb t g' own (w.setCell ⟨wb, j, none⟩ v) := by
  obtain ⟨cur, h1, h2, h3⟩ := h.cells
  refine ⟨⟨_, (set_heap h1 j v).1, by simp [h2], fun k hk => ?_⟩, h.free, h.far⟩
  rw [hg k, Array.getElem?_setIfInBounds]
  by_cases e : j = k
  · rw [if_pos e, if_pos (by omega), if_pos e.symm]
  · rw [if_neg e, if_neg (fun h => e h.symm)]; exact h3 k hk
theorem Row4.other {W w : World} {wb tb : Nat} {t : TypeId} {g : Nat → Value} {own : Own} (h : Row4 W wb t g own w) (hne : wb ≠ tb) (j : Nat) (v : Value) : Row4 W wb t g own (w.setCell ⟨tb, j, none⟩ v) := by
  obtain ⟨cur, h1, h2, h3⟩ := h.cells
  exact ⟨⟨cur, (Below.heap_setCell _ _ _ _ hne).trans h1, h2, h3⟩, h.free, h.far⟩
theorem Row4.congr {W w : World} {wb : Nat} {t : TypeId} {g g' : Nat → Value} {own : Own} (h : Row4 W wb t g own w) (hg : ∀ k, g' k = g k) : Row4 W wb t g' own w := by
  obtain ⟨cur, h1, h2, h3⟩ := h.cells
  exact ⟨⟨cur, h1, h2, fun k hk => by rw [hg]; exact h3 k hk⟩, h.free, h.far⟩
theorem SyD.set {W w : World} {i a : Nat} {K K0 : List Nat} {ws : List (Nat × List Nat)} {kp : List (ByteArray × Nat)} {ld : List NameOp} {own : Own} {D : DiskA} (h : SyD W i a K K0 ws kp ld own D w) {wb : Nat} (hn : own wb = none) (hf : W.heap.size ≤ wb) (j : Nat) (v : Value) : SyD W i a K K0 ws kp ld own D (w.setCell ⟨wb, j, none⟩ v) := by
  have hb : Below W.heap.size W (w.setCell ⟨wb, j, none⟩ v) := h.below.setCell hf v
  have hst : Steps (fun k => if k = wb then some .disk else none) (fun k => if k = wb then some .disk else none) w (w.setCell ⟨wb, j, none⟩ v) :=
    ⟨rfl, rfl, rfl, by simp [World.setCell], fun k hk ho => by
      have hne : k ≠ wb := by
        intro e; subst e
        rw [if_pos rfl] at ho
        rcases ho with h | h <;> cases h
      exact Below.heap_setCell _ _ _ _ hne, fun _ _ => rfl⟩
  exact ⟨h.disk.beside hst (fun k r hr => .inl (if_neg (by intro e; subst e; rw [hn] at hr; cases hr))), h.ok, h.far, hb, h.left, h.ops, h.room, h.seen, h.kept, h.laid, h.made, h.one, h.others, h.used, h.few, h.fit, h.short⟩
theorem Row4.apart {W w : World} {wb lb : Nat} {t : TypeId} {g : Nat → Value} {own : Own} (h : Row4 W wb t g own w) (hl : lb < W.heap.size) : lb ≠ wb := by
  have := h.far; omega

/-- What the first loop keeps. -/
structure P1 (W : World) (a wb i : Nat) (K : List Nat) (ws : List (Nat × List Nat)) (own : Own) (D : DiskA) (w : World) : Prop where
  disk : SyD W (1 + i) a K [] ws [] [.create fF 1] own D w
  redone : Redone K [] ws
  row : Row4 W wb 5 (byteAt (atB K)) own w

/-- What its inner loop keeps. -/
structure In1 (W : World) (a wb i : Nat) (K K' : List Nat) (ws' : List (Nat × List Nat)) (bl : List Nat) (o k : Nat) (own : Own) (D : DiskA) (w : World) : Prop where
  disk : SyD W (1 + i + 1) a K' [] ws' [] [.create fF 1] own D w
  row : Row4 W wb 5 (byteAt fun j => if o ≤ j ∧ j < o + k then atB bl (j - o) else atB K j) own w

/-- Which places some write covers. -/
def coverB (ws : List (Nat × List Nat)) (k : Nat) : Bool := ws.any fun p => decide (p.1 ≤ k) && decide (k < p.1 + p.2.length)
theorem coverB_of (ws : List (Nat × List Nat)) (k : Nat) (h : coverB ws k = false) : ¬ coveredBy ws k := by
  rintro ⟨p, hp, h1, h2⟩
  have : coverB ws k = true := List.any_eq_true.2 ⟨p, hp, by simp [h1, h2]⟩
  rw [h] at this; cases this
theorem coverB_next (ws : List (Nat × List Nat)) (o : Nat) (b : List Nat) (k : Nat) : coverB (nextWs ws o b) k = (coverB ws k || (decide (o ≤ k) && decide (k < o + b.length))) := by
  unfold nextWs
  split
  · rename_i h
    subst h
    have : (decide (o ≤ k) && decide (k < o + ([] : List Nat).length)) = false := by simp
    rw [this, Bool.or_false]
  · simp [coverB, List.any_append]
def turnedAt (f : Nat → Bool) (k : Nat) : Value := .bool (f k)
theorem zero34_size : Try.zeroCells34.size = 4000 := by decide +kernel
def isNo : Value → Bool
  | .bool false => true
  | _ => false
theorem isNo_eq {v : Value} (h : isNo v = true) : v = .bool false := by
  unfold isNo at h
  split at h
  · rfl
  · cases h
theorem zero34_all : Try.zeroCells34.toList.all isNo = true := by decide +kernel
theorem zero34_at (k : Nat) (hk : k < 4000) : Try.zeroCells34[k]? = some (.bool false) := by
  have hs : k < Try.zeroCells34.size := by rw [zero34_size]; exact hk
  rw [Array.getElem?_eq_getElem hs]
  exact congrArg some (isNo_eq (List.all_eq_true.1 zero34_all _ (by rw [Array.mem_toList_iff]; exact Array.getElem_mem hs)))
/-- What the second loop keeps. -/
structure P2 (W : World) (a wb tb i : Nat) (K K' : List Nat) (ws : List (Nat × List Nat)) (own : Own) (D : DiskA) (w : World) : Prop where
  disk : SyD W i a K' K ws [(fF, 1)] [] own D w
  row : Row4 W wb 5 (byteAt (atB K)) own w
  turned : Row4 W tb 34 (turnedAt (coverB ws)) own w
structure In2 (W : World) (a wb tb i : Nat) (K K' : List Nat) (ws ws' : List (Nat × List Nat)) (o k : Nat) (own : Own) (D : DiskA) (w : World) : Prop where
  disk : SyD W i a K' K ws' [(fF, 1)] [] own D w
  row : Row4 W wb 5 (byteAt (atB K)) own w
  turned : Row4 W tb 34 (turnedAt fun j => coverB ws j || (decide (o ≤ j) && decide (j < o + k))) own w

set_option maxRecDepth 100000 in
set_option maxHeartbeats 16000000 in
theorem synced_any (hbegun : ∀ w : World, Calls Try.prog 7 #[] w fun e w' => e = .returned (.bool true) ∧ Below w.heap.size w w') (pa : Option Addr) (na ca : Nat) (A : Nat → DeedV) (pb : Option Addr) (nb cb : Nat) (B : Nat → DeedV) (bv : Value) (bits : List Nat) (w : World) (ha : Deeds w pa na ca A) (hb : Deeds w pb nb cb B) (hbits : Bytes w bv bits) :
    Calls Try.prog 3 #[.slice pa na ca, .slice pb nb cb, bv] w fun e w' => e = .returned (.bool true) ∧ Below w.heap.size w w' := by
  obtain ⟨q, cq, rfl, _⟩ := hbits.any
  have HBG := Lib.hid hbegun; have HA := Lib.hid ha; have HB := Lib.hid hb; have HBITS := Lib.hid hbits
  clear hbegun ha hb hbits
  by_cases hna : (10 : Int) < na
  · have hd : decide ((10 : Int) < na) = true := decide_eq_true hna
    go_enter Try.func3, Try.ntmps3
    go_wp2_with (go_at_call 7; refine (HBG.out _).mono ?_; rintro e w1 ⟨rfl, hb1⟩; have HB1 := Lib.hid hb1; clear hb1)
    go_ret
    exact ⟨rfl, HB1.out⟩
  have hda : decide ((10 : Int) < na) = false := decide_eq_false hna
  by_cases hnb : (10 : Int) < nb
  · have hd : decide ((10 : Int) < nb) = true := decide_eq_true hnb
    go_enter Try.func3, Try.ntmps3
    go_wp2_with (go_at_call 7; refine (HBG.out _).mono ?_; rintro e w1 ⟨rfl, hb1⟩; have HB1 := Lib.hid hb1; clear hb1)
    go_ret
    exact ⟨rfl, HB1.out⟩
  have hdb : decide ((10 : Int) < nb) = false := decide_eq_false hnb
  have hl1 : ∀ w0, Below w.heap.size w w0 → Calls Try.prog 8 #[.slice pa na ca] w0 (Lit na A w0) := fun w0 h => light_any pa na ca A w0 (HA.out.below h)
  have hl2 : ∀ w0, Below w.heap.size w w0 → Calls Try.prog 8 #[.slice pb nb cb] w0 (Lit nb B w0) := fun w0 h => light_any pb nb cb B w0 (HB.out.below h)
  have HL1 := Lib.hid hl1; have HL2 := Lib.hid hl2
  clear hl1 hl2
  go_enter Try.func3, Try.ntmps3
  go_wp2_with (go_at_call 7; refine (HBG.out _).mono ?_; rintro e w1 ⟨rfl, hb1⟩; have HB1 := Lib.hid hb1; clear hb1)
  refine (HL1.out _ HB1.out).mono ?_
  rintro e w2 ⟨la, rfl, hb2, hla⟩
  cases la
  · have HB2 := Lib.hid (HB1.out.trans (hb2.mono HB1.out.size))
    clear hb2 hla
    go_wp2
    go_ret
    exact ⟨rfl, HB2.out⟩
  have hA400 := hla rfl
  have HB2 := Lib.hid (HB1.out.trans (hb2.mono HB1.out.size)); have HA400 := Lib.hid hA400
  clear hb2 hla hA400
  go_wp2_with fail
  refine (HL2.out _ HB2.out).mono ?_
  rintro e w3 ⟨lb, rfl, hb3, hlb⟩
  cases lb
  · have HB3 := Lib.hid (HB2.out.trans (hb3.mono HB2.out.size))
    clear hb3 hlb
    go_wp2
    go_ret
    exact ⟨rfl, HB3.out⟩
  have hB400 := hlb rfl
  have HB3 := Lib.hid (HB2.out.trans (hb3.mono HB2.out.size)); have HB400 := Lib.hid hB400
  clear hb3 hlb hB400 HL1 HL2 HBG
  by_cases hn40 : (40 : Int) < bits.length
  · have hd : decide ((40 : Int) < bits.length) = true := decide_eq_true hn40
    go_wp2
    go_ret
    exact ⟨rfl, HB3.out⟩
  have hd40 : decide ((40 : Int) < bits.length) = false := decide_eq_false hn40
  go_wp2_with fail
  refine (new_any 1048576 w3).mono ?_
  rintro e w4 ⟨rfl, hd4, hb4⟩
  have hst := SyD.start (W := w3) hd4 (fun k r hk => by
    have hk' : (if k = w3.heap.size then some Role.disk else none) = some r := hk
    split at hk'
    · omega
    · cases hk') hb4
  have HCR := Lib.hid hst
  clear hd4 hb4 hst
  go_wp2_with (go_at_call 10; refine HCR.out.mono ?_; rintro e w5 ⟨rfl, own5, D5, hs5⟩; have HS5 := Lib.hid hs5; clear hs5)
  have hmk : (Instr.makeSlice 23 (.int .i64 4000) (.int .i64 4000)).run Try.prog w5 = .ok (.slice (some ⟨w5.heap.size, 0, none⟩) 4000 4000) (w5.alloc (.cells (noughts 4000) 5)) := noughts_run 4000 (by omega) w5
  have hlt5 : w3.heap.size ≤ w5.heap.size := HS5.out.below.size
  have hn5 : own5 w5.heap.size = none := by
    cases e : own5 w5.heap.size with
    | none => rfl
    | some r => exact absurd (HS5.out.disk.here _ r e) (Nat.lt_irrefl _)
  have hp1 : P1 w3 w3.heap.size w5.heap.size 0 [] [] own5 D5 (w5.alloc (.cells (noughts 4000) 5)) :=
    ⟨HS5.out.stay ((Below.refl _ _).alloc (Nat.le_refl _) _), rfl, ⟨⟨noughts 4000, heap_alloc_new w5 _, by simp [noughts, cellsOf], fun k hk => by
      simp only [noughts, cellsOf, List.map_replicate, List.getElem?_toArray, List.getElem?_replicate, if_pos hk]; rfl⟩, hn5, hlt5⟩⟩
  have HP1 := Lib.hid hp1
  clear hp1 hn5 hlt5 HS5 HCR HB1 HB2
  obtain ⟨wb, hwb⟩ : ∃ wb, wb = w5.heap.size := ⟨_, rfl⟩
  rw [hmk]
  clear hmk
  go_wp2
  rw [← hwb] at HP1 ⊢
  clear hwb
  go_loopw [9, 10] (fun sz x wr => ∃ (i : Nat) (K : List Nat) (ws : List (Nat × List Nat)) (own : Own) (D : DiskA), x = .int .i64 i ∧ sz = .int .i64 (K.length : Nat) ∧ i ≤ na ∧ P1 w3 w3.heap.size wb i K ws own D wr) (fun _ x _ => na - (intOf x).toNat)
  case atStart => exact ⟨0, [], [], _, _, rfl, rfl, by omega, HP1.out⟩
  case round =>
    obtain ⟨i, K, ws, own, D, rfl, rfl, hi, hp⟩ := hrel
    clear HP1
    have HP := Lib.hid hp
    clear hp
    by_cases hlt : i < na
    · have hki : (i : Int) < na := by omega
      have hd := (HA.out.below HB3.out).below (HP.out.disk.below)
      obtain ⟨lb, lo, rfl, _, _, _, _, c4, c5⟩ := hd.at_ i hlt
      obtain ⟨b5, _⟩ := hd.wf i hlt
      have hbl := HA400.out i hlt
      obtain ⟨q5, cc5, hv5, _⟩ := b5.any
      rw [hv5] at c5 b5
      obtain ⟨o, ho, ho2⟩ : ∃ o : Nat, Go.bits .and .i64 (A i).off 1023 = (o : Int) ∧ o ≤ 1023 := ⟨((A i).off % 1024).toNat, by rw [and_1023]; omega, by omega⟩
      have hW0 : w.heap.size ≤ w3.heap.size := HB3.out.size
      have hown := old_none (HA.out.wf i hlt).1 hW0 HP.out.disk.far
      rw [hv5] at hown
      have HWR := Lib.hid (HP.out.disk.write (by omega) ho2 b5 hbl (fun hne k hk => .inl (hown hne k hk)))
      have HBY := Lib.hid b5; have HBL := Lib.hid hbl
      have hbn : ((A i).bytes.length : Int) ≤ 400 := by omega
      obtain ⟨bl, hble⟩ : ∃ bl, bl = (A i).bytes := ⟨_, rfl⟩
      rw [← hble] at HWR HBY HBL hbn c5
      have HBLE := Lib.hid hble
      have HV5 := Lib.hid hv5
      rw [← hble] at HV5
      generalize (A i).off = of at *
      clear hd b5 hown hbl hble hv5
      go_wp2_with fail
      refine HWR.out.mono ?_
      rintro e w6 ⟨rfl, own6, D6, hs6, hy6⟩
      have hrow6 := HP.out.row.steps hs6
      have HS6 := Lib.hid hy6; have HR6 := Lib.hid hrow6
      clear hs6 hy6 hrow6 HWR
      go_wp2
      go_loopw [9, 12] (fun sz x wr => ∃ (k s : Nat), x = .int .i64 k ∧ sz = .int .i64 s ∧ k ≤ bl.length ∧ s = (if k = 0 then K.length else max K.length (o + k)) ∧ In1 w3 w3.heap.size wb i K (nextK K o bl) (nextWs ws o bl) bl o k own6 D6 wr) (fun _ x _ => bl.length - (intOf x).toNat)
      case atStart =>
        exact ⟨0, K.length, rfl, rfl, by omega, rfl, HS6.out, HR6.out.congr (fun k => by unfold byteAt; dsimp only; rw [if_neg (by omega)])⟩
      case round =>
        obtain ⟨k, s, rfl, rfl, hk, hs, hin⟩ := hrel
        have HIN := Lib.hid hin
        have hsm : s ≤ 4000 := by
          have := HP.out.disk.short; have := HBL.out
          split at hs <;> omega
        have hdr := (HA.out.below HB3.out).below hin.disk.below
        obtain ⟨lb', lo', he, _, _, _, _, _, d5⟩ := hdr.at_ i hlt
        cases he
        have e5 := (hdr.wf i hlt).1
        rw [HV5.out] at d5 e5
        rw [← HBLE.out] at e5
        by_cases hkl : k < bl.length
        · have hkli : (k : Int) < bl.length := by omega
          have hkb := HBL.out
          obtain ⟨b2, f2, rfl, hce⟩ : ∃ b2 f2, q5 = some ⟨b2, f2, none⟩ ∧ ∀ j, j < bl.length → _ = some (Value.int .u8 (atB bl j : Nat)) := by
            rcases e5.out with ⟨_, h1⟩ | ⟨_, _, h1⟩ | ⟨b, off, cap, h1, _, hc⟩
            · rw [h1] at hkl; exact absurd hkl (Nat.not_lt_zero _)
            · rw [h1] at hkl; exact absurd hkl (Nat.not_lt_zero _)
            · simp only [Value.slice.injEq] at h1
              exact ⟨b, off, h1.1, hc⟩
          have hck := hce k hkl
          obtain ⟨g1, g2⟩ := hin.row.cell (k := o + k) (by omega)
          have w1' : IntKind.i64.wrap ((o : Int) + k) = (o : Int) + k := IntWalk.i64_in _ (by omega)
          have w2' : IntKind.i64.wrap ((o : Int) + k + 1) = (o : Int) + k + 1 := IntWalk.i64_in _ (by omega)
          have t1 : ((o : Int) + k).toNat = o + k := by omega
          have t2 : (0 : Int) ≤ (o : Int) + k := by omega
          have t3 : (o : Int) + k < 4000 := by omega
          have HS := Lib.hid hs; have HSM := Lib.hid hsm
          clear hs hsm hin hdr e5 hce
          go_wp2_with fail
          go_roundw
          case rel =>
            refine ⟨k + 1, max s (o + k + 1), by go_num, by simp only [Value.int.injEq, true_and]; omega, by omega, ?_, HIN.out.disk.set HIN.out.row.free HIN.out.row.far _ _, HIN.out.row.set (by omega) _ (fun j => ?_)⟩
            · have := HS.out
              rw [if_neg (by omega)]
              split at this <;> omega
            · unfold byteAt
              dsimp only
              by_cases e : j = o + k
              · subst e
                rw [if_pos rfl, if_pos (by omega), Nat.add_sub_cancel_left]
              · rw [if_neg e]
                by_cases e2 : o ≤ j ∧ j < o + k
                · rw [if_pos e2, if_pos (by omega)]
                · rw [if_neg e2, if_neg (by omega)]
          case measure => simp [intOf]; omega
        · have hkli : ¬ (k : Int) < bl.length := by omega
          obtain rfl : k = bl.length := by omega
          have HS := Lib.hid hs
          clear hs hsm hin hdr e5
          go_wp2
          go_roundw
          case rel =>
            refine ⟨i + 1, nextK K o bl, nextWs ws o bl, own6, D6, by go_num, ?_, by omega, HIN.out.disk, HP.out.redone.next o bl, HIN.out.row.congr (fun j => by unfold byteAt; rw [nextK_at])⟩
            have := HS.out
            rw [nextK_length, this]
            by_cases e : bl = []
            · rw [if_pos e, if_pos (by rw [e]; rfl)]
            · rw [if_neg e, if_neg (by intro h; exact e (List.length_eq_zero_iff.1 h))]
          case measure => simp [intOf]; omega
    · have hki : ¬ (i : Int) < na := by omega
      obtain rfl : i = na := by omega
      have hKs := HP.out.disk.short
      have HSY := Lib.hid (HP.out.disk.sync (by omega) HP.out.redone)
      clear hi hlt
      go_wp2_with fail
      refine HSY.out.mono ?_
      rintro e w6 ⟨rfl, own6, D6, hs6, hy6⟩
      have hrow6 := HP.out.row.steps hs6
      have HSD := Lib.hid (hy6.syncDir (by omega))
      clear hs6 hy6 HSY HP
      go_wp2_with fail
      refine HSD.out.mono ?_
      rintro e w7 ⟨rfl, own7, D7, hs7, hy7⟩
      have HR7 := Lib.hid (hrow6.steps hs7)
      have HY7 := Lib.hid hy7
      clear hs7 hy7 hrow6 HSD
      have hfree7 : own7 w7.heap.size = none := by
        cases e : own7 w7.heap.size with
        | none => rfl
        | some r => exact absurd (HY7.out.disk.here _ r e) (Nat.lt_irrefl _)
      have hp2 : P2 w3 w3.heap.size wb w7.heap.size (1 + i + 1 + 1 + 0) K K [] own7 D7 (w7.alloc (.cells Try.zeroCells34 34)) :=
        ⟨HY7.out.stay ((Below.refl _ _).alloc (Nat.le_refl _) _), HR7.out.steps (Steps.of_below ((Below.refl _ _).alloc (Nat.le_refl _) _)), ⟨_, heap_alloc_new w7 _, zero34_size, fun k hk => zero34_at k hk⟩, hfree7, HY7.out.below.size⟩
      have HP2 := Lib.hid hp2
      have hna10 : i ≤ 10 := by omega
      have hK0 : K.length ≤ 1423 := hKs
      have hwt : wb < w7.heap.size := (Array.getElem?_eq_some_iff.1 HR7.out.cells.choose_spec.1).1
      clear hp2 hfree7 HY7 HR7 hKs
      go_wp2_with fail
      obtain ⟨tb, htb⟩ : ∃ tb, tb = w7.heap.size := ⟨_, rfl⟩
      rw [← htb] at HP2 hwt ⊢
      clear htb
      go_loopw [14] (fun x wr => ∃ (j : Nat) (K' : List Nat) (ws : List (Nat × List Nat)) (own : Own) (D : DiskA), x = .int .i64 j ∧ j ≤ nb ∧ P2 w3 w3.heap.size wb tb (1 + i + 1 + 1 + j) K K' ws own D wr) (fun x _ => nb - (intOf x).toNat)
      case atStart => exact ⟨0, K, [], _, _, rfl, by omega, HP2.out⟩
      case round =>
        obtain ⟨j, K', ws', own, D, rfl, hj, hp⟩ := hrel
        clear HP2
        have HP := Lib.hid hp
        clear hp
        by_cases hltj : j < nb
        · have hkj : (j : Int) < nb := by omega
          have hd := (HB.out.below HB3.out).below (HP.out.disk.below)
          obtain ⟨lb, lo, rfl, _, _, _, _, c4, c5⟩ := hd.at_ j hltj
          obtain ⟨b5, _⟩ := hd.wf j hltj
          have hbl := HB400.out j hltj
          obtain ⟨q5, cc5, hv5, _⟩ := b5.any
          rw [hv5] at c5 b5
          obtain ⟨o, ho, ho2⟩ : ∃ o : Nat, Go.bits .and .i64 (B j).off 1023 = (o : Int) ∧ o ≤ 1023 := ⟨((B j).off % 1024).toNat, by rw [and_1023]; omega, by omega⟩
          have hW0 : w.heap.size ≤ w3.heap.size := HB3.out.size
          have hown := old_none (HB.out.wf j hltj).1 hW0 HP.out.disk.far
          rw [hv5] at hown
          have HWR := Lib.hid (HP.out.disk.write (by omega) ho2 b5 hbl (fun hne k hk => .inl (hown hne k hk)))
          have HBL := Lib.hid hbl
          have hbn : ((B j).bytes.length : Int) ≤ 400 := by omega
          obtain ⟨bl, hble⟩ : ∃ bl, bl = (B j).bytes := ⟨_, rfl⟩
          rw [← hble] at HWR HBL hbn c5
          have HBLE := Lib.hid hble
          have HV5 := Lib.hid hv5
          rw [← hble] at HV5
          generalize (B j).off = of at *
          clear hd b5 hown hbl hble hv5
          go_wp2_with fail
          refine HWR.out.mono ?_
          rintro e w8 ⟨rfl, own8, D8, hs8, hy8⟩
          have hin2 : In2 w3 w3.heap.size wb tb (1 + i + 1 + 1 + j + 1) K (nextK K' o bl) ws' (nextWs ws' o bl) o 0 own8 D8 w8 :=
            ⟨hy8, HP.out.row.steps hs8, (HP.out.turned.steps hs8).congr (fun k => by
              unfold turnedAt
              dsimp only
              have : (decide (o ≤ k) && decide (k < o + 0)) = false := by simp
              rw [this, Bool.or_false])⟩
          have HIN := Lib.hid hin2
          clear hs8 hy8 hin2 HWR
          go_wp2
          go_loopw [16] (fun x wr => ∃ (k : Nat), x = .int .i64 k ∧ k ≤ bl.length ∧ In2 w3 w3.heap.size wb tb (1 + i + 1 + 1 + j + 1) K (nextK K' o bl) ws' (nextWs ws' o bl) o k own8 D8 wr) (fun x _ => bl.length - (intOf x).toNat)
          case atStart => exact ⟨0, rfl, by omega, HIN.out⟩
          case round =>
            obtain ⟨k, rfl, hk, hin⟩ := hrel
            clear HIN
            have HIN := Lib.hid hin
            have hdr := (HB.out.below HB3.out).below hin.disk.below
            obtain ⟨lb', lo', he, _, _, _, _, _, d5⟩ := hdr.at_ j hltj
            cases he
            rw [HV5.out] at d5
            by_cases hkl : k < bl.length
            · have hkli : (k : Int) < bl.length := by omega
              have hkb := HBL.out
              obtain ⟨g1, g2⟩ := hin.turned.cell (k := o + k) (by omega)
              have w1' : IntKind.i64.wrap ((o : Int) + k) = (o : Int) + k := IntWalk.i64_in _ (by omega)
              have t1 : ((o : Int) + k).toNat = o + k := by omega
              have t2 : (0 : Int) ≤ (o : Int) + k := by omega
              have t3 : (o : Int) + k < 4000 := by omega
              clear hin hdr
              go_wp2_with fail
              go_roundw
              case rel =>
                refine ⟨k + 1, by go_num, by omega, HIN.out.disk.set HIN.out.turned.free HIN.out.turned.far _ _, ?_, HIN.out.turned.set (by omega) _ (fun m => ?_)⟩
                · exact HIN.out.row.other (Nat.ne_of_lt hwt) _ _
                · unfold turnedAt
                  dsimp only
                  by_cases e : m = o + k
                  · subst e
                    rw [if_pos rfl]
                    have : (decide (o ≤ o + k) && decide (o + k < o + (k + 1))) = true := by simp
                    rw [this, Bool.or_true]
                  · rw [if_neg e]
                    have : (decide (o ≤ m) && decide (m < o + (k + 1))) = (decide (o ≤ m) && decide (m < o + k)) := by
                      congr 1
                      exact decide_eq_decide.2 (by omega)
                    rw [this]
              case measure => simp [intOf]; omega
            · have hkli : ¬ (k : Int) < bl.length := by omega
              obtain rfl : k = bl.length := by omega
              clear hin hdr
              go_wp2
              go_roundw
              case rel =>
                exact ⟨j + 1, nextK K' o bl, nextWs ws' o bl, own8, D8, by go_num, by omega, HIN.out.disk, HIN.out.row, HIN.out.turned.congr (fun m => by unfold turnedAt; rw [coverB_next])⟩
              case measure => simp [intOf]; omega
        · have hkj : ¬ (j : Int) < nb := by omega
          obtain rfl : j = nb := by omega
          have HCR2 := Lib.hid (HP.out.disk.crash (by omega) hK0 ((HBITS.out.below HB3.out).below HP.out.disk.below) (fun hne k hk => old_none HBITS.out HB3.out.size HP.out.disk.far hne k hk))
          clear hj hltj
          go_wp2_with fail
          refine HCR2.out.mono ?_
          rintro e w9 ⟨rfl, own9, D9, S, hs9, hl9⟩
          have HR9 := Lib.hid (HP.out.row.steps hs9)
          have HT9 := Lib.hid (HP.out.turned.steps hs9)
          have HSZ := Lib.hid hl9.size
          have HRD := Lib.hid hl9.read
          have HL9 := Lib.hid hl9
          have hSm := hl9.most
          have hSl := hl9.more
          clear hs9 hl9 HCR2 HP
          go_wp2_with fail
          refine HSZ.out.mono ?_
          rintro e w10 ⟨rfl, rfl⟩
          go_wp2_with fail
          refine HRD.out.mono ?_
          rintro e w11 ⟨v, rfl, hown, hb11, hs11⟩
          have HWW := Lib.hid (HR9.out.steps hs11)
          have HTT := Lib.hid (HT9.out.steps hs11)
          have HOW := Lib.hid hown
          have HB11 := Lib.hid hb11
          obtain ⟨p, cp, rfl⟩ : ∃ p cp, v = .slice p S.length cp := by
            rcases hown.2 with ⟨h, h2⟩ | ⟨g, c, _, h, _⟩
            · exact ⟨none, 0, by rw [h, h2]⟩
            · exact ⟨_, c, h⟩
          have dl : decide ((S.length : Int) < K.length) = false := decide_eq_false (by omega)
          have dm : decide ((4000 : Int) < S.length) = false := decide_eq_false (by omega)
          have HAT := Lib.hid HL9.out.at_
          clear hown hb11 hs11 HSZ HRD HR9 HT9 HL9
          go_wp2_with fail
          go_loopw [21] (fun x wr => ∃ k : Nat, x = .int .i64 k ∧ k ≤ S.length ∧ wr.heap = w11.heap ∧ Below w3.heap.size w3 wr) (fun x _ => S.length - (intOf x).toNat)
          case atStart => exact ⟨0, rfl, by omega, rfl, HB11.out⟩
          case round =>
            obtain ⟨k, rfl, hk, hh, hbw⟩ := hrel
            have HBW := Lib.hid hbw
            have HH := Lib.hid hh
            have hcl : ∀ a, w11.cell? a = _ := fun a => (World.cell?_of_block (w := w11) (w' := _) (a := a) (by rw [hh])).symm
            clear hbw hh
            by_cases hkl : k < S.length
            · have hkli : (k : Int) < S.length := by omega
              have hk4 : (k : Int) < 4000 := by omega
              obtain ⟨g1, _⟩ := HTT.out.cell (k := k) (by omega)
              obtain ⟨g2, _⟩ := HWW.out.cell (k := k) (by omega)
              unfold turnedAt at g1
              unfold byteAt at g2
              rw [hcl] at g1 g2
              obtain ⟨b2, rfl, g3⟩ : ∃ b2, p = some ⟨b2, 0, none⟩ ∧ _ = some (Value.int .u8 (atB S k : Nat)) := by
                rcases HOW.out.2 with ⟨_, h2⟩ | ⟨g, c, _, h, _⟩
                · omega
                · simp only [Value.slice.injEq] at h
                  have hc := World.ownsRow.cells HOW.out (g := g) (by rw [h.1]; rfl) k (.int .u8 (atB S k : Nat)) (by
                    unfold cellsOf
                    rw [List.getElem?_map, List.getElem?_eq_getElem hkl, atB_of hkl]; rfl)
                  rw [Addr.add_lit, Nat.zero_add, hcl] at hc
                  exact ⟨g, h.1, hc⟩
              clear hcl
              cases hcb : coverB ws' k
              · have heq := HAT.out k (coverB_of _ _ hcb)
                rw [hcb] at g1
                rw [heq] at g3
                go_wp2_with fail
                go_quiet (fail)
                go_wp2
                go_roundw
                case rel => exact ⟨k + 1, by go_num, by omega, HH.out, HBW.out.trans ⟨rfl, rfl, rfl, Nat.le_refl _, fun _ _ => rfl⟩⟩
                case measure => simp [intOf]; omega
              · rw [hcb] at g1
                go_wp2_with fail
                go_quiet (fail)
                go_wp2
                go_roundw
                case rel => exact ⟨k + 1, by go_num, by omega, HH.out, HBW.out.trans ⟨rfl, rfl, rfl, Nat.le_refl _, fun _ _ => rfl⟩⟩
                case measure => simp [intOf]; omega
            · have hkli : ¬ (k : Int) < S.length := by omega
              clear hcl
              go_wp2_with fail
              go_ret
              exact ⟨rfl, HB3.out.trans (HBW.out.mono HB3.out.size)⟩
end Go.Proofs.Ytleikjmomkdhoaa
