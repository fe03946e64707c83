/- Roots in a program: what the document takes. -/
import Derived.Test.YtkhpblclpcgjnaaRtB
import Derived.Test.YtkhpblclpcgjnaaReg
import Derived.Test.YtkhpblclpcgjnaaKeyP
import Derived.Deep.Cut
namespace Go.By
open Go Go.RowKit
def nul5 (k : Nat) : List NKd := List.replicate (5 - k) ⟨0, 0⟩
/-- A root that has been read so far. -/
def stepRt (gen : Nat) (l : List Nat) (k : Nat) : Rt := ⟨gen, numS l, rdRefs k (l.drop 8) ++ nul5 k⟩
theorem stepRt_all (gen : Nat) (l : List Nat) : stepRt gen l 5 = rdRt gen l := by
  unfold stepRt rdRt nul5
  simp
theorem stepRt_five (gen : Nat) (l : List Nat) {k : Nat} (h : k ≤ 5) : (stepRt gen l k).ts.length = 5 := by
  unfold stepRt nul5
  rw [List.length_append, rdRefs_length, List.length_replicate]
  omega
theorem rdRefs_snoc : ∀ (k : Nat) (l : List Nat), rdRefs (k + 1) l = rdRefs k l ++ [rdRef (l.drop (16 * k))]
  | 0, l => by simp [rdRefs]
  | k + 1, l => by
    rw [rdRefs, rdRefs_snoc k, rdRefs, List.cons_append, List.drop_drop, show 16 + 16 * k = 16 * (k + 1) by omega]
theorem stepRt_next (gen : Nat) (l : List Nat) {k : Nat} (h : k < 5) : (⟨gen, numS l, (stepRt gen l k).ts.set k (rdRef (l.drop (8 + 16 * k)))⟩ : Rt) = stepRt gen l (k + 1) := by
  unfold stepRt
  congr 1
  rw [rdRefs_snoc, List.set_append_right _ _ (by rw [rdRefs_length]; exact Nat.le_refl _), rdRefs_length, Nat.sub_self, List.drop_drop, List.append_assoc]
  congr 1
  unfold nul5
  rw [show 5 - k = (5 - (k + 1)) + 1 by omega, List.replicate_succ]
  rfl
theorem set_two {r : Rt} (h5 : r.ts.length = 5) {k : Nat} (hk : k < 5) (o : Int) (c : Nat) :
    ((rtCells r).toArray.setIfInBounds (2 + k * 2) (.int .i64 o)).setIfInBounds (2 + k * 2 + 1) (.int .u64 (c : Nat)) = (rtCells ⟨r.gen, r.nx, r.ts.set k ⟨o, c⟩⟩).toArray := by
  obtain ⟨g, nx, ts⟩ := r
  obtain ⟨a, b, c', d, e, rfl⟩ := five_of h5
  match k, hk with
  | 0, _ => rfl
  | 1, _ => rfl
  | 2, _ => rfl
  | 3, _ => rfl
  | 4, _ => rfl
def rt0 : Rt := ⟨0, 0, [⟨0, 0⟩, ⟨0, 0⟩, ⟨0, 0⟩, ⟨0, 0⟩, ⟨0, 0⟩]⟩
theorem come_rt0 : RtCome rt0 := RtCome.of (by decide) (by decide) rfl (fun d hd => by
  have e : d = ⟨0, 0⟩ := by simpa [rt0] using hd
  subst e
  exact ⟨by decide, by decide, by decide⟩)
theorem numS_bounds (l : List Nat) : -9223372036854775808 ≤ numS l ∧ numS l ≤ 9223372036854775807 := by
  unfold numS RowKit.wrap64
  omega
theorem rdRt_come {gen : Nat} {l : List Nat} (hl : ∀ c ∈ l, c < 256) (hg : gen < 18446744073709551616) : RtCome (rdRt gen l) := by
  refine RtCome.of hg (numS_bounds l) (rdRefs_length _ _) (fun d hd => ?_)
  obtain ⟨i, hi, rfl⟩ := List.getElem_of_mem hd
  have e : (rdRt gen l).ts[i] = rdRef ((l.drop 8).drop (16 * i)) := rdRefs_at (n := 5) hi
  rw [e]
  refine ⟨(numS_bounds _).1, (numS_bounds _).2, ?_⟩
  show numOf _ < _
  have h1 := numOf_lt (((((l.drop 8).drop (16 * i))).drop 8).take 8) (fun c hc => hl c (List.mem_of_mem_drop (List.mem_of_mem_drop (List.mem_of_mem_drop (List.mem_of_mem_take hc)))))
  have h2 : 256 ^ ((((l.drop 8).drop (16 * i)).drop 8).take 8).length ≤ 256 ^ 8 := Nat.pow_le_pow_right (by omega) (by rw [List.length_take]; omega)
  exact Nat.lt_of_lt_of_le h1 (Nat.le_trans h2 (by decide))
/-- What is answered. -/
def rtAns (gen : Nat) (l : List Nat) : Value := match takeRt gen l with
  | some r => .tuple #[.agg (rtCells r).toArray, .int .i64 0]
  | none => .tuple #[.agg (rtCells rt0).toArray, .int .i64 2]
theorem rtAns_no {gen : Nat} {l : List Nat} (h : takeRt gen l = none) : rtAns gen l = .tuple #[.agg (rtCells rt0).toArray, .int .i64 2] := by unfold rtAns; rw [h]
theorem rtAns_yes {gen : Nat} {l : List Nat} {r : Rt} (h : takeRt gen l = some r) : rtAns gen l = .tuple #[.agg (rtCells r).toArray, .int .i64 0] := by unfold rtAns; rw [h]
/-- Only this block turned. -/
structure Only (A : Nat) (w w' : World) : Prop where
  os : w'.os = w.os
  tape : w'.tape = w.tape
  output : w'.output = w.output
  size : w.heap.size ≤ w'.heap.size
  block : ∀ k, k < w.heap.size → k ≠ A → w'.heap[k]? = w.heap[k]?
theorem Only.refl (A : Nat) (w : World) : Only A w w := ⟨rfl, rfl, rfl, Nat.le_refl _, fun _ _ _ => rfl⟩
theorem Only.drew {A : Nat} {w w' : World} (h : Only A w w') : Only A w w'.drew := ⟨h.os, h.tape, h.output, h.size, h.block⟩
theorem Only.setCell {A : Nat} {w w' : World} (h : Only A w w') (i : Nat) (v : Value) : Only A w (w'.setCell ⟨A, i, none⟩ v) :=
  ⟨h.os, h.tape, h.output, by simpa [World.setCell] using h.size, fun k hk hne => (heap_setCell_other w' ⟨A, i, none⟩ k v hne).trans (h.block k hk hne)⟩
theorem Only.below {A : Nat} {w0 w w' : World} (h : Only A w w') (hb : Below w0.heap.size w0 w) (hA : w0.heap.size ≤ A) : Below w0.heap.size w0 w' :=
  ⟨h.os.trans hb.os, h.tape.trans hb.tape, h.output.trans hb.output, Nat.le_trans hb.size h.size, fun k hk => (h.block k (Nat.lt_of_lt_of_le hk hb.size) (by omega)).trans (hb.block k hk)⟩
end Go.By
namespace Go.Proofs.Ytkhpblclpcgjnaa
open Go Go.RowKit Go.By

/-- b[n:], b of so many bytes. -/
theorem from_run {w : World} {p : Option Addr} {cap i n : Nat} {l : List Nat} (h : Bytes w (.slice p l.length cap) l) (hn : l.length = i + n) :
    ∃ q c, (∀ w0 : World, (Instr.slice 28 (.slice p l.length cap) (some (.int .i64 (i : Int))) none none).run Try.prog w0 = .ok (.slice q n c) w0) ∧ Bytes w (.slice q n c) (pc l i n) := by
  obtain ⟨q, c, h1, h2⟩ := piece_run h i n (by omega)
  refine ⟨q, c, fun w0 => ?_, h2⟩
  have e1 := h1 w0
  have hcap := h.room.2
  rw [run_slice_lh (P := Try.prog) w0 28 p l.length cap (by kernel_rfl) .i64 .i64 (i : Int) ((i : Int) + (n : Int)) (by omega) (by omega) (by omega)] at e1
  rw [run_slice_l (P := Try.prog) w0 28 p l.length cap (by kernel_rfl) .i64 (i : Int) (by omega) (by omega)]
  rw [show ((i : Int) + (n : Int)).toNat = l.length by omega] at e1
  exact e1

/-- How far the refs have been read. -/
def TrRel (w2 : World) (G gen : Nat) (l : List Nat) (i : Value) (wr : World) : Prop :=
  ∃ k : Nat, k ≤ 5 ∧ i = .int .i64 k ∧ wr.heap[G]? = some (.cells (rtCells (stepRt gen l k)).toArray 27 (0, 0)) ∧ Only G w2 wr

theorem root_ret {tmps : Array Value} {w : World} {A : Nat} {cs : Array Value} {x : Value} (hp : tmps.getD 4 undef = .pointer (some ⟨A, 0, none⟩)) (hx : tmps.getD 5 undef = x) (hg : w.heap[A]? = some (.cells cs 27 (0, 0))) (hc : cs.size = 12) :
    (results Try.f8 tmps).run Try.prog w = .ok (.tuple #[.agg cs, x]) w := by
  have hi : (Try.prog.info? 27).map (·.size) = some cs.size := by rw [hc]; kernel_rfl
  have hq : (Try.prog.underlying 27).map (fun d => match d with | .struct _ | .array _ _ => true | _ => false) = some true := by kernel_rfl
  obtain ⟨d, hu, hd⟩ := Option.map_eq_some_iff.1 hq
  rw [results_cell_tmp (p := 4) (u := 5) (ty := 27) (by kernel_rfl), hp, hx]
  have := run_loadVar_row (P := Try.prog) w A 27 27 cs (0, 0) d hg hu (by cases d <;> simp_all) hi
  simp [asAddr, this, Result.andThen]

/-- Cells written one behind the other. -/
def setAll (w : World) (A : Nat) : Nat → List Value → World
  | _, [] => w
  | i, x :: xs => setAll (w.setCell ⟨A, i, none⟩ x) A (i + 1) xs
theorem setAll_at {A : Nat} {T : TypeId} : ∀ {xs : List Value} {w : World} {i : Nat} {C : List Value}, w.heap[A]? = some (.cells C.toArray T (0, 0)) → i + xs.length = C.length → (setAll w A i xs).heap[A]? = some (.cells (C.take i ++ xs).toArray T (0, 0))
  | [], w, i, C, h, hl => by
    rw [List.append_nil, List.take_of_length_le (by simp at hl; omega)]
    exact h
  | x :: xs, w, i, C, h, hl => by
    rw [List.length_cons] at hl
    have h2 := heap_setCell_same w A i C.toArray T x h
    have e : C.toArray.setIfInBounds i x = (C.set i x).toArray := by simp
    rw [e] at h2
    have h3 := setAll_at (xs := xs) (w := w.setCell ⟨A, i, none⟩ x) (i := i + 1) (C := C.set i x) h2 (by rw [List.length_set]; omega)
    show (setAll (w.setCell ⟨A, i, none⟩ x) A (i + 1) xs).heap[A]? = _
    rw [h3]
    have hi : i < C.length := by omega
    have e2 : (C.set i x).take (i + 1) = C.take i ++ [x] := by
      rw [List.take_succ_eq_append_getElem (by rw [List.length_set]; exact hi), List.take_set_of_le (Nat.le_refl _), List.getElem_set_self]
    rw [e2, List.append_assoc]
    rfl
theorem setAll_below {B A : Nat} {w0 : World} (hB : B ≤ A) : ∀ {xs : List Value} {w : World} {i : Nat}, Below B w0 w → Below B w0 (setAll w A i xs)
  | [], _, _, h => h
  | x :: xs, w, i, h => setAll_below hB (xs := xs) (h.setCell (p := ⟨A, i, none⟩) hB x)

set_option maxRecDepth 100000 in
set_option maxHeartbeats 2000000 in
theorem refTakeRoot_any (v : Value) (l : List Nat) (gen : Nat) (w : World) (hv : Bytes w v l) (hg : gen < 18446744073709551616) :
    Calls Try.prog 8 #[.int .u64 gen, v] w fun z w' => z = .returned (rtAns gen l) ∧ Below w.heap.size w w' := by
  obtain ⟨p, cap, rfl, _⟩ := hv.any
  obtain ⟨w1, hw1⟩ : ∃ W, W = w.alloc (.cells #[.int .u64 0, .int .i64 0, .int .i64 0, .int .u64 0, .int .i64 0, .int .u64 0, .int .i64 0, .int .u64 0, .int .i64 0, .int .u64 0, .int .i64 0, .int .u64 0] 27) := ⟨_, rfl⟩
  have hz1 : w1.heap.size = w.heap.size + 1 := by rw [hw1]; simp
  have ha1 : w1.heap[w.heap.size]? = some (.cells (rtCells rt0).toArray 27 (0, 0)) := by rw [hw1]; exact heap_alloc_new w _
  have hb1 : Below w.heap.size w w1 := by rw [hw1]; exact (Below.refl _ _).alloc (Nat.le_refl _) _
  by_cases h88 : l.length = 88
  · have hm := hv.short
    unfold maxLen at hm
    have HV := Lib.hid hv
    obtain ⟨A, hA⟩ : ∃ A, A = w.heap.size := ⟨_, rfl⟩
    have HAA := Lib.hid hA
    have hv1 : Bytes w1 (.slice p l.length cap) l := hv.below hb1
    have hup : Bytes w1 (.slice p 8 cap) (l.take 8) := Bytes.upto hv1 (by omega)
    have hcap := hv1.room.2
    have hsl := fun w0 => upto_runI p l.length cap 8 8 rfl (by omega) w0
    have HNUM := Lib.hid (num_any _ _ w1 hup (by rw [List.length_take]; omega))
    have hnx : IntKind.i64.wrap (numOf (l.take 8) : Nat) = numS l := by unfold numS RowKit.wrap64; rw [IntKind.wrap_i64]
    obtain ⟨nx, hnxe⟩ : ∃ n, n = numS l := ⟨_, rfl⟩
    rw [← hnxe] at hnx
    obtain ⟨w2, hw2⟩ : ∃ W, W = w1.alloc (.cells #[.int .u64 (gen : Nat), .int .i64 nx, .int .i64 0, .int .u64 0, .int .i64 0, .int .u64 0, .int .i64 0, .int .u64 0, .int .i64 0, .int .u64 0, .int .i64 0, .int .u64 0] 27) := ⟨_, rfl⟩
    have hb2 : Below w1.heap.size w1 w2 := by rw [hw2]; exact (Below.refl _ _).alloc (Nat.le_refl _) _
    obtain ⟨G, hG⟩ : ∃ G, G = w1.heap.size := ⟨_, rfl⟩
    have HGG := Lib.hid hG
    have hg2 : w2.heap[G]? = some (.cells (rtCells (stepRt gen l 0)).toArray 27 (0, 0)) := by
      have h1 := heap_alloc_new w1 (.cells #[.int .u64 (gen : Nat), .int .i64 nx, .int .i64 0, .int .u64 0, .int .i64 0, .int .u64 0, .int .i64 0, .int .u64 0, .int .i64 0, .int .u64 0, .int .i64 0, .int .u64 0] 27)
      rw [← hw2] at h1
      rw [hG, h1, hnxe]
      rfl
    have HREL : Hid (TrRel w2 G gen l (.int .i64 (0 : Nat)) w2) := ⟨0, by omega, rfl, hg2, Only.refl _ _⟩
    have HW1 := Lib.hid hw1; have HW2 := Lib.hid hw2; have HB1 := Lib.hid hb1; have HB2 := Lib.hid hb2; have HA1 := Lib.hid ha1; have H88 := Lib.hid h88; have HNXE := Lib.hid hnxe
    have hne : ((l.length : Int) != 88) = false := by rw [h88]; rfl
    generalize hNN : numOf (l.take 8) = NN at *
    clear hw1 hw2 hb1 hb2 ha1 hv hv1 hup hg2 hz1 hnxe hNN
    rw [h88] at hsl hne hcap ⊢
    go_enter Try.func8, Try.ntmps8
    go_upto_region 1 with fail
    rw [← HW1.out, ← hA]
    clear hA
    go_wp2_with fail
    refine HNUM.out.mono ?_
    rintro e w1' ⟨rfl, rfl⟩
    clear hsl
    go_upto_region 5 with fail
    rw [← HW2.out, ← hG]
    clear hG
    go_loopw [7] (fun i W => TrRel w2 G gen l i W) (fun i _ => 5 - (intOf i).toNat)
    case atStart => exact HREL.out
    case round =>
      clear HREL
      obtain ⟨k, hk, rfl, hgr, hon⟩ := hrel
      have hbr : Below w.heap.size w wr := hon.below (HB1.out.trans (HB2.out.mono HB1.out.size)) (by have := HGG.out; have := HB1.out.size; omega)
      have hvr := HV.out.below hbr
      by_cases hlt : k < 5
      · obtain ⟨u, cu, hsl, hbu⟩ := piece_run hvr (8 + 16 * k) 16 (by have := H88.out; omega)
        have hsl2 : ∀ w0 : World, (Instr.slice 28 (.slice p 88 cap) (some (.int .i64 (8 + 16 * (k : Int)))) (some (.int .i64 (24 + 16 * (k : Int)))) none).run Try.prog w0 = .ok (.slice u 16 cu) w0 := fun w0 => by
          have := hsl w0
          rw [H88.out, show (((8 + 16 * k : Nat) : Int) + ((16 : Nat) : Int)) = 24 + 16 * (k : Int) by omega, show ((8 + 16 * k : Nat) : Int) = 8 + 16 * (k : Int) by omega] at this
          exact this
        have hml : (pc l (8 + 16 * k) 16).length = 16 := pc_length (by have := H88.out; omega)
        obtain ⟨m, hm'⟩ : ∃ m, m = pc l (8 + 16 * k) 16 := ⟨_, rfl⟩
        rw [← hm'] at hbu hml
        have hbu' : Bytes wr (.slice u m.length cu) m := by rw [hml]; exact hbu
        have hu1 : Bytes wr (.slice u 8 cu) (m.take 8) := Bytes.upto hbu' (by omega)
        have hup := fun w0 => upto_runI u 16 cu 8 8 rfl (by have := hbu.room.2; omega) w0
        obtain ⟨q, cq, hfr, hu2⟩ := from_run (i := 8) (n := 8) hbu' (by omega)
        rw [hml] at hfr
        have hfr2 : ∀ w0 : World, (Instr.slice 28 (.slice u 16 cu) (some (.int .i64 8)) none none).run Try.prog w0 = .ok (.slice q 8 cq) w0 := hfr
        have hd : Below wr.heap.size wr wr.drew := (Below.refl _ _).drew
        have HN1 := Lib.hid (num_any _ _ wr.drew (hu1.below hd) (by rw [List.length_take]; omega))
        have HN2 := Lib.hid (num_any _ _ wr.drew (hu2.below hd) (by rw [pc_length (by omega)]; omega))
        obtain ⟨off, hoff⟩ : ∃ o, o = numS (l.drop (8 + 16 * k)) := ⟨_, rfl⟩
        have hdr : rdRef (l.drop (8 + 16 * k)) = ⟨off, numOf (pc m 8 8)⟩ := by
          rw [hoff, hm']
          unfold rdRef pc
          congr 2
          rw [List.drop_take, List.take_take]
          rfl
        have hcv : IntKind.i64.wrap (numOf (m.take 8) : Nat) = off := by
          rw [hoff, hm']
          unfold numS RowKit.wrap64 pc
          rw [IntKind.wrap_i64, List.take_take]
          rfl
        have hkt : k < (stepRt gen l k).ts.length := by rw [stepRt_five gen l hk]; exact hlt
        obtain ⟨s0, s1⟩ := rtCells_off hkt
        have d0 := cells_of hgr (2 + k * 2)
        rw [List.getElem?_toArray, s0] at d0
        have d1 := cells_of hgr (2 + k * 2 + 1)
        rw [List.getElem?_toArray, s1] at d1
        have f0 := free_of hgr (2 + k * 2)
        have f1 := free_of hgr (2 + k * 2 + 1)
        have hgn : ((wr.drew.setCell ⟨G, 2 + k * 2, none⟩ (.int .i64 off)).setCell ⟨G, 2 + k * 2 + 1, none⟩ (.int .u64 (numOf (pc m 8 8) : Nat))).heap[G]? = some (.cells (rtCells (stepRt gen l (k + 1))).toArray 27 (0, 0)) := by
          have h1 := heap_setCell_same (wr.drew.setCell ⟨G, 2 + k * 2, none⟩ (.int .i64 off)) G (2 + k * 2 + 1) _ _ (.int .u64 (numOf (pc m 8 8) : Nat)) (heap_setCell_same wr.drew G (2 + k * 2) _ _ (.int .i64 off) hgr)
          rw [h1, set_two (stepRt_five gen l hk) hlt]
          have e := stepRt_next gen l hlt
          rw [hdr] at e
          rw [← e]
          rfl
        have HNX : Hid (TrRel w2 G gen l (.int .i64 (k + 1 : Nat)) ((wr.drew.setCell ⟨G, 2 + k * 2, none⟩ (.int .i64 off)).setCell ⟨G, 2 + k * 2 + 1, none⟩ (.int .u64 (numOf (pc m 8 8) : Nat)))) :=
          ⟨k + 1, hlt, rfl, hgn, (hon.drew.setCell _ _).setCell _ _⟩
        have HLT := Lib.hid hlt
        have hki : (k : Int) < 5 := by omega
        generalize numOf (m.take 8) = N1 at *
        generalize numOf (pc m 8 8) = N2 at *
        generalize (stepRt gen l k).ts[k].off = z0 at *
        generalize (stepRt gen l k).ts[k].ct = z1 at *
        clear hsl hbu hbu' hu1 hu2 hfr hd hoff hdr hkt s0 s1 hgn hgr hon hbr hvr hml hm' hlt hk
        go_wp2
        go_region_law (first
          | (go_simp; go_at_call 15; with_reducible refine HN1.out.mono ?_; rintro e w5 ⟨rfl, rfl⟩)
          | (go_simp; go_at_call 15; with_reducible refine HN2.out.mono ?_; rintro e w6 ⟨rfl, rfl⟩))
        all_goals
          go_wp2
          go_roundw
          case rel => exact HNX.out
          case measure => simp [intOf]; have := HLT.out; omega
      · obtain rfl : k = 5 := by omega
        have hki : ¬ ((5 : Nat) : Int) < 5 := by omega
        clear hlt hk
        have HVR : Hid (Bytes wr (.slice p 88 cap) l) := by unfold Hid; rw [← H88.out]; exact hvr
        obtain ⟨R, hR⟩ : ∃ R, R = rdRt gen l := ⟨_, rfl⟩
        rw [stepRt_all, ← hR] at hgr
        have HCO : Hid (RtCome R) := by unfold Hid; rw [hR]; exact rdRt_come HVR.out.small hg
        have HTK := Lib.hid (takeRt_iff (gen := gen) HVR.out.small H88.out)
        have HTE : Hid (takeRt gen l = if l.length = 88 ∧ mayRt (rdRt gen l) = true then some (rdRt gen l) else none) := rfl
        rw [← hR] at HTK HTE
        clear hR
        have HPL : Hid ((putRt R).length ≤ maxLen) := by
          unfold Hid putRt
          split
          · rw [rootOf_length, HCO.out.five]; decide
          · decide
        obtain ⟨a, b, c, d, e, hts⟩ := five_of HCO.out.five
        obtain ⟨rg, rx, ts⟩ := R
        dsimp only at hts
        subst hts
        have HGR : Hid (wr.heap[G]? = some (.cells #[.int .u64 (rg : Nat), .int .i64 rx, .int .i64 a.off, .int .u64 (a.ct : Nat), .int .i64 b.off, .int .u64 (b.ct : Nat), .int .i64 c.off, .int .u64 (c.ct : Nat), .int .i64 d.off, .int .u64 (d.ct : Nat), .int .i64 e.off, .int .u64 (e.ct : Nat)] 27 (0, 0))) := hgr
        have HGL : Hid (G < wr.heap.size) := (Array.getElem?_eq_some_iff.1 hgr).1
        have HA2 : w1.heap[A]? = some (.cells (rtCells rt0).toArray 27 (0, 0)) := by rw [HAA.out]; exact HA1.out
        have HAL2 : A < w1.heap.size := (Array.getElem?_eq_some_iff.1 HA2).1
        have HAR : Hid (wr.heap[A]? = some (.cells (rtCells rt0).toArray 27 (0, 0))) :=
          ((hon.block A (Nat.lt_of_lt_of_le HAL2 HB2.out.size) (by have := HGG.out; omega)).trans (HB2.out.block A HAL2)).trans HA2
        have HAL : Hid (A < wr.heap.size) := (Array.getElem?_eq_some_iff.1 HAR.out).1
        have HBR := Lib.hid hbr
        have HD0 := Lib.hid (cells_of HGR.out 0)
        have HD1 := Lib.hid (cells_of HGR.out 1)
        have HD2 := Lib.hid (cells_of HGR.out 2)
        have HD3 := Lib.hid (cells_of HGR.out 3)
        have HD4 := Lib.hid (cells_of HGR.out 4)
        have HD5 := Lib.hid (cells_of HGR.out 5)
        have HD6 := Lib.hid (cells_of HGR.out 6)
        have HD7 := Lib.hid (cells_of HGR.out 7)
        have HD8 := Lib.hid (cells_of HGR.out 8)
        have HD9 := Lib.hid (cells_of HGR.out 9)
        have HD10 := Lib.hid (cells_of HGR.out 10)
        have HD11 := Lib.hid (cells_of HGR.out 11)
        clear hgr HA2 HAL2 hon hbr hvr h88
        go_upto_region 9 with fail
        by_cases hP : putRt ⟨rg, rx, [a, b, c, d, e]⟩ = l
        · have HP := Lib.hid hP
          have HE := Lib.hid (rtAns_yes (HTE.out.trans (if_pos ⟨H88.out, HTK.out.2 hP⟩)))
          clear hP
          refine wp_region_left (by kernel_rfl)
            [.is (.agg #[.int .u64 (rg : Nat), .int .i64 rx, .int .i64 a.off, .int .u64 (a.ct : Nat), .int .i64 b.off, .int .u64 (b.ct : Nat), .int .i64 c.off, .int .u64 (c.ct : Nat), .int .i64 d.off, .int .u64 (d.ct : Nat), .int .i64 e.off, .int .u64 (e.ct : Nat)]),
             .bytes (l),
             .is (.string (strOf (l))),
             .is (.slice p 88 cap),
             .is (.string (strOf l)),
             .is (.bool false)]
            [[], [0], [1], [], [3], [2, 4]] (by kernel_rfl) (by rfl) ?_ ?_
          · refine LeftOps.cons ?_ (LeftOps.cons ?_ (LeftOps.cons ?_ (LeftOps.cons ?_ (LeftOps.cons ?_ (LeftOps.cons ?_ (LeftOps.nil))))))
            · intro wz hwz
              refine withLeft_nil ?_
              refine lft_run rfl rfl ?_
              unfold LftRun
              have d0 := (hwz.cell (p := ⟨G, 0, none⟩) HGL.out).trans HD0.out
              have d1 := (hwz.cell (p := ⟨G, 1, none⟩) HGL.out).trans HD1.out
              have d2 := (hwz.cell (p := ⟨G, 2, none⟩) HGL.out).trans HD2.out
              have d3 := (hwz.cell (p := ⟨G, 3, none⟩) HGL.out).trans HD3.out
              have d4 := (hwz.cell (p := ⟨G, 4, none⟩) HGL.out).trans HD4.out
              have d5 := (hwz.cell (p := ⟨G, 5, none⟩) HGL.out).trans HD5.out
              have d6 := (hwz.cell (p := ⟨G, 6, none⟩) HGL.out).trans HD6.out
              have d7 := (hwz.cell (p := ⟨G, 7, none⟩) HGL.out).trans HD7.out
              have d8 := (hwz.cell (p := ⟨G, 8, none⟩) HGL.out).trans HD8.out
              have d9 := (hwz.cell (p := ⟨G, 9, none⟩) HGL.out).trans HD9.out
              have d10 := (hwz.cell (p := ⟨G, 10, none⟩) HGL.out).trans HD10.out
              have d11 := (hwz.cell (p := ⟨G, 11, none⟩) HGL.out).trans HD11.out
              go_wp2
              exact ⟨rfl, rfl, rfl, Below.refl _ _⟩
            · intro wz hwz
              refine withLeft_is rfl rfl ?_
              refine withLeft_nil ?_
              simp only [Act.put, List.setIfInBounds_toArray, List.set_cons_zero, List.set_cons_succ]
              refine lft_run rfl rfl ?_
              unfold LftRun
              have hcl := refPutRoot_any wz ⟨rg, rx, [a, b, c, d, e]⟩ HCO.out
              go_wp2_with fail
              refine hcl.mono ?_
              rintro e wq ⟨vq, rfl, hoq, hbq⟩
              have hyq := Bytes.of_owns hoq (putRt_small _) HPL.out
              rw [HP.out] at hyq
              clear hoq hcl
              go_wp2
              exact ⟨rfl, hyq, rfl, hbq⟩
            · intro wz hwz
              refine withLeft_bytes rfl rfl ?_
              intro vv hvv
              obtain ⟨pv, cv, rfl, _⟩ := hvv.any
              have hcvv := hvv.toString (P := Try.prog) byT (d := 9) (by kernel_rfl)
              refine withLeft_nil ?_
              simp only [Act.put, List.setIfInBounds_toArray, List.set_cons_zero, List.set_cons_succ]
              refine lft_run rfl rfl ?_
              unfold LftRun
              go_wp2
              exact ⟨rfl, rfl, rfl, Below.refl _ _⟩
            · intro wz hwz
              refine withLeft_nil ?_
              refine lft_run rfl rfl ?_
              exact lft_move rfl (by first | rfl | assumption)
            · intro wz hwz
              refine withLeft_is rfl rfl ?_
              refine withLeft_nil ?_
              simp only [Act.put, List.setIfInBounds_toArray, List.set_cons_zero, List.set_cons_succ]
              refine lft_run rfl rfl ?_
              have hcl := (HVR.out.below hwz).toString (P := Try.prog) byT (d := 9) (by kernel_rfl)
              unfold LftRun
              go_wp2
              exact ⟨rfl, rfl, rfl, Below.refl _ _⟩
            · intro wz hwz
              refine withLeft_is rfl rfl ?_
              refine withLeft_is rfl rfl ?_
              refine withLeft_nil ?_
              simp only [Act.put, List.setIfInBounds_toArray, List.set_cons_zero, List.set_cons_succ]
              refine lft_run rfl rfl ?_
              unfold LftRun
              go_wp2
              exact ⟨rfl, rfl, rfl, Below.refl _ _⟩
          intro wz hwz
          refine LeftEnd.is (LeftEnd.bytes (fun _ _ => LeftEnd.is (LeftEnd.is (LeftEnd.is (LeftEnd.is (LeftEnd.nil ?_))))))
          simp only [Act.put, List.setIfInBounds_toArray, List.set_cons_zero, List.set_cons_succ]

          have haz := (hwz.block A HAL.out).trans HAR.out
          have HX := Lib.hid (setAll_at (i := 0) (xs := [.int .u64 (rg : Nat), .int .i64 rx, .int .i64 a.off, .int .u64 (a.ct : Nat), .int .i64 b.off, .int .u64 (b.ct : Nat), .int .i64 c.off, .int .u64 (c.ct : Nat), .int .i64 d.off, .int .u64 (d.ct : Nat), .int .i64 e.off, .int .u64 (e.ct : Nat)]) haz rfl)
          have HBX := Lib.hid (setAll_below (xs := [.int .u64 (rg : Nat), .int .i64 rx, .int .i64 a.off, .int .u64 (a.ct : Nat), .int .i64 b.off, .int .u64 (b.ct : Nat), .int .i64 c.off, .int .u64 (c.ct : Nat), .int .i64 d.off, .int .u64 (d.ct : Nat), .int .i64 e.off, .int .u64 (e.ct : Nat)]) (i := 0) (Nat.le_of_eq HAA.out.symm) (HBR.out.trans (hwz.mono HBR.out.size)))
          have a0 := cells_of haz 0; have q0 := free_of haz 0
          have a1 := cells_of haz 1; have q1 := free_of haz 1
          have a2 := cells_of haz 2; have q2 := free_of haz 2
          have a3 := cells_of haz 3; have q3 := free_of haz 3
          have a4 := cells_of haz 4; have q4 := free_of haz 4
          have a5 := cells_of haz 5; have q5 := free_of haz 5
          have a6 := cells_of haz 6; have q6 := free_of haz 6
          have a7 := cells_of haz 7; have q7 := free_of haz 7
          have a8 := cells_of haz 8; have q8 := free_of haz 8
          have a9 := cells_of haz 9; have q9 := free_of haz 9
          have a10 := cells_of haz 10; have q10 := free_of haz 10
          have a11 := cells_of haz 11; have q11 := free_of haz 11
          simp only [setAll, List.take_zero, List.nil_append, Nat.zero_add, Nat.reduceAdd] at HX HBX
          simp only [rtCells, rt0, rfCells, List.flatMap_cons, List.flatMap_nil, List.cons_append, List.nil_append, List.append_nil, List.getElem?_toArray, List.getElem?_cons_zero, List.getElem?_cons_succ] at a0 a1 a2 a3 a4 a5 a6 a7 a8 a9 a10 a11
          have d0 := (hwz.cell (p := ⟨G, 0, none⟩) HGL.out).trans HD0.out
          have d1 := (hwz.cell (p := ⟨G, 1, none⟩) HGL.out).trans HD1.out
          have d2 := (hwz.cell (p := ⟨G, 2, none⟩) HGL.out).trans HD2.out
          have d3 := (hwz.cell (p := ⟨G, 3, none⟩) HGL.out).trans HD3.out
          have d4 := (hwz.cell (p := ⟨G, 4, none⟩) HGL.out).trans HD4.out
          have d5 := (hwz.cell (p := ⟨G, 5, none⟩) HGL.out).trans HD5.out
          have d6 := (hwz.cell (p := ⟨G, 6, none⟩) HGL.out).trans HD6.out
          have d7 := (hwz.cell (p := ⟨G, 7, none⟩) HGL.out).trans HD7.out
          have d8 := (hwz.cell (p := ⟨G, 8, none⟩) HGL.out).trans HD8.out
          have d9 := (hwz.cell (p := ⟨G, 9, none⟩) HGL.out).trans HD9.out
          have d10 := (hwz.cell (p := ⟨G, 10, none⟩) HGL.out).trans HD10.out
          have d11 := (hwz.cell (p := ⟨G, 11, none⟩) HGL.out).trans HD11.out
          clear haz
          go_wp2
          refine bodyPost_ret (root_ret rfl rfl HX.out rfl) rfl ?_
          exact ⟨by rw [HE.out]; rfl, HBX.out⟩
        · have HE := Lib.hid (rtAns_no (HTE.out.trans (if_neg (fun h => hP (HTK.out.1 h.2)))))
          have HNE : Hid (((strOf (putRt ⟨rg, rx, [a, b, c, d, e]⟩)).toList == (strOf l).toList) = false) := by
            unfold Hid
            rw [eq_str, natsOf_strOf (putRt_small _), natsOf_strOf HVR.out.small, decide_eq_false]
            exact hP
          clear hP
          refine wp_region_left (by kernel_rfl)
            [.is (.agg #[.int .u64 (rg : Nat), .int .i64 rx, .int .i64 a.off, .int .u64 (a.ct : Nat), .int .i64 b.off, .int .u64 (b.ct : Nat), .int .i64 c.off, .int .u64 (c.ct : Nat), .int .i64 d.off, .int .u64 (d.ct : Nat), .int .i64 e.off, .int .u64 (e.ct : Nat)]),
             .bytes (putRt ⟨rg, rx, [a, b, c, d, e]⟩),
             .is (.string (strOf (putRt ⟨rg, rx, [a, b, c, d, e]⟩))),
             .is (.slice p 88 cap),
             .is (.string (strOf l)),
             .is (.bool true)]
            [[], [0], [1], [], [3], [2, 4]] (by kernel_rfl) (by rfl) ?_ ?_
          · refine LeftOps.cons ?_ (LeftOps.cons ?_ (LeftOps.cons ?_ (LeftOps.cons ?_ (LeftOps.cons ?_ (LeftOps.cons ?_ (LeftOps.nil))))))
            · intro wz hwz
              refine withLeft_nil ?_
              refine lft_run rfl rfl ?_
              unfold LftRun
              have d0 := (hwz.cell (p := ⟨G, 0, none⟩) HGL.out).trans HD0.out
              have d1 := (hwz.cell (p := ⟨G, 1, none⟩) HGL.out).trans HD1.out
              have d2 := (hwz.cell (p := ⟨G, 2, none⟩) HGL.out).trans HD2.out
              have d3 := (hwz.cell (p := ⟨G, 3, none⟩) HGL.out).trans HD3.out
              have d4 := (hwz.cell (p := ⟨G, 4, none⟩) HGL.out).trans HD4.out
              have d5 := (hwz.cell (p := ⟨G, 5, none⟩) HGL.out).trans HD5.out
              have d6 := (hwz.cell (p := ⟨G, 6, none⟩) HGL.out).trans HD6.out
              have d7 := (hwz.cell (p := ⟨G, 7, none⟩) HGL.out).trans HD7.out
              have d8 := (hwz.cell (p := ⟨G, 8, none⟩) HGL.out).trans HD8.out
              have d9 := (hwz.cell (p := ⟨G, 9, none⟩) HGL.out).trans HD9.out
              have d10 := (hwz.cell (p := ⟨G, 10, none⟩) HGL.out).trans HD10.out
              have d11 := (hwz.cell (p := ⟨G, 11, none⟩) HGL.out).trans HD11.out
              go_wp2
              exact ⟨rfl, rfl, rfl, Below.refl _ _⟩
            · intro wz hwz
              refine withLeft_is rfl rfl ?_
              refine withLeft_nil ?_
              simp only [Act.put, List.setIfInBounds_toArray, List.set_cons_zero, List.set_cons_succ]
              refine lft_run rfl rfl ?_
              unfold LftRun
              have hcl := refPutRoot_any wz ⟨rg, rx, [a, b, c, d, e]⟩ HCO.out
              go_wp2_with fail
              refine hcl.mono ?_
              rintro e wq ⟨vq, rfl, hoq, hbq⟩
              have hyq := Bytes.of_owns hoq (putRt_small _) HPL.out
              clear hoq hcl
              go_wp2
              exact ⟨rfl, hyq, rfl, hbq⟩
            · intro wz hwz
              refine withLeft_bytes rfl rfl ?_
              intro vv hvv
              obtain ⟨pv, cv, rfl, _⟩ := hvv.any
              have hcvv := hvv.toString (P := Try.prog) byT (d := 9) (by kernel_rfl)
              refine withLeft_nil ?_
              simp only [Act.put, List.setIfInBounds_toArray, List.set_cons_zero, List.set_cons_succ]
              refine lft_run rfl rfl ?_
              unfold LftRun
              go_wp2
              exact ⟨rfl, rfl, rfl, Below.refl _ _⟩
            · intro wz hwz
              refine withLeft_nil ?_
              refine lft_run rfl rfl ?_
              exact lft_move rfl (by first | rfl | assumption)
            · intro wz hwz
              refine withLeft_is rfl rfl ?_
              refine withLeft_nil ?_
              simp only [Act.put, List.setIfInBounds_toArray, List.set_cons_zero, List.set_cons_succ]
              refine lft_run rfl rfl ?_
              have hcl := (HVR.out.below hwz).toString (P := Try.prog) byT (d := 9) (by kernel_rfl)
              unfold LftRun
              go_wp2
              exact ⟨rfl, rfl, rfl, Below.refl _ _⟩
            · intro wz hwz
              refine withLeft_is rfl rfl ?_
              refine withLeft_is rfl rfl ?_
              refine withLeft_nil ?_
              simp only [Act.put, List.setIfInBounds_toArray, List.set_cons_zero, List.set_cons_succ]
              refine lft_run rfl rfl ?_
              unfold LftRun
              have hne := HNE.out
              go_wp2
              exact ⟨rfl, rfl, rfl, Below.refl _ _⟩
          intro wz hwz
          refine LeftEnd.is (LeftEnd.bytes (fun _ _ => LeftEnd.is (LeftEnd.is (LeftEnd.is (LeftEnd.is (LeftEnd.nil ?_))))))
          simp only [Act.put, List.setIfInBounds_toArray, List.set_cons_zero, List.set_cons_succ]

          have haz := (hwz.block A HAL.out).trans HAR.out
          have HX := Lib.hid (setAll_at (i := 0) (xs := [.int .u64 0, .int .i64 0, .int .i64 0, .int .u64 0, .int .i64 0, .int .u64 0, .int .i64 0, .int .u64 0, .int .i64 0, .int .u64 0, .int .i64 0, .int .u64 0]) haz rfl)
          have HBX := Lib.hid (setAll_below (xs := [.int .u64 0, .int .i64 0, .int .i64 0, .int .u64 0, .int .i64 0, .int .u64 0, .int .i64 0, .int .u64 0, .int .i64 0, .int .u64 0, .int .i64 0, .int .u64 0]) (i := 0) (Nat.le_of_eq HAA.out.symm) (HBR.out.trans (hwz.mono HBR.out.size)))
          have a0 := cells_of haz 0; have q0 := free_of haz 0
          have a1 := cells_of haz 1; have q1 := free_of haz 1
          have a2 := cells_of haz 2; have q2 := free_of haz 2
          have a3 := cells_of haz 3; have q3 := free_of haz 3
          have a4 := cells_of haz 4; have q4 := free_of haz 4
          have a5 := cells_of haz 5; have q5 := free_of haz 5
          have a6 := cells_of haz 6; have q6 := free_of haz 6
          have a7 := cells_of haz 7; have q7 := free_of haz 7
          have a8 := cells_of haz 8; have q8 := free_of haz 8
          have a9 := cells_of haz 9; have q9 := free_of haz 9
          have a10 := cells_of haz 10; have q10 := free_of haz 10
          have a11 := cells_of haz 11; have q11 := free_of haz 11
          simp only [setAll, List.take_zero, List.nil_append, Nat.zero_add, Nat.reduceAdd] at HX HBX
          simp only [rtCells, rt0, rfCells, List.flatMap_cons, List.flatMap_nil, List.cons_append, List.nil_append, List.append_nil, List.getElem?_toArray, List.getElem?_cons_zero, List.getElem?_cons_succ] at a0 a1 a2 a3 a4 a5 a6 a7 a8 a9 a10 a11
          clear haz
          go_wp2
          refine bodyPost_ret (root_ret rfl rfl HX.out rfl) rfl ?_
          exact ⟨by rw [HE.out]; rfl, HBX.out⟩
  · have E : takeRt gen l = none := by unfold takeRt; rw [if_neg (fun h => h88 h.1)]
    have hne : ((l.length : Int) != 88) = true := by simp; omega
    have HX := Lib.hid (setAll_at (i := 0) (xs := [.int .u64 0, .int .i64 0, .int .i64 0, .int .u64 0, .int .i64 0, .int .u64 0, .int .i64 0, .int .u64 0, .int .i64 0, .int .u64 0, .int .i64 0, .int .u64 0]) ha1 rfl)
    have HBX := Lib.hid (setAll_below (xs := [.int .u64 0, .int .i64 0, .int .i64 0, .int .u64 0, .int .i64 0, .int .u64 0, .int .i64 0, .int .u64 0, .int .i64 0, .int .u64 0, .int .i64 0, .int .u64 0]) (i := 0) (Nat.le_refl _) hb1)
    have a0 := cells_of ha1 0; have q0 := free_of ha1 0
    have a1 := cells_of ha1 1; have q1 := free_of ha1 1
    have a2 := cells_of ha1 2; have q2 := free_of ha1 2
    have a3 := cells_of ha1 3; have q3 := free_of ha1 3
    have a4 := cells_of ha1 4; have q4 := free_of ha1 4
    have a5 := cells_of ha1 5; have q5 := free_of ha1 5
    have a6 := cells_of ha1 6; have q6 := free_of ha1 6
    have a7 := cells_of ha1 7; have q7 := free_of ha1 7
    have a8 := cells_of ha1 8; have q8 := free_of ha1 8
    have a9 := cells_of ha1 9; have q9 := free_of ha1 9
    have a10 := cells_of ha1 10; have q10 := free_of ha1 10
    have a11 := cells_of ha1 11; have q11 := free_of ha1 11
    simp only [setAll, List.take_zero, List.nil_append, Nat.zero_add, Nat.reduceAdd] at HX HBX
    simp only [rtCells, rt0, rfCells, List.flatMap_cons, List.flatMap_nil, List.cons_append, List.nil_append, List.append_nil, List.getElem?_toArray, List.getElem?_cons_zero, List.getElem?_cons_succ] at a0 a1 a2 a3 a4 a5 a6 a7 a8 a9 a10 a11
    have HE := Lib.hid (rtAns_no E)
    clear ha1 hb1 h88 E hv hz1
    have HW1 := Lib.hid hw1
    generalize hA : w.heap.size = A at *
    clear hw1
    go_enter Try.func8, Try.ntmps8
    go_upto_region 1 with fail
    rw [← HW1.out]
    clear HW1 hA
    go_wp2
    refine bodyPost_ret (root_ret rfl rfl HX.out rfl) rfl ?_
    exact ⟨by rw [HE.out]; rfl, HBX.out⟩
end Go.Proofs.Ytkhpblclpcgjnaa

