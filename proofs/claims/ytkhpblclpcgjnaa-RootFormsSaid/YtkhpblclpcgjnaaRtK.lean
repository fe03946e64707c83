/- Roots in a program: the developers' numbers and parts, as they are taken. -/
import Derived.Test.YtkhpblclpcgjnaaRtG
import Derived.Deep.RegionLaw
namespace Go.By
open Go Go.RowKit
theorem Only.trans {A : Nat} {w w1 w2 : World} (h : Only A w w1) (h2 : Only A w1 w2) : Only A w w2 :=
  ⟨h2.os.trans h.os, h2.tape.trans h.tape, h2.output.trans h.output, Nat.le_trans h.size h2.size, fun k hk hne => (h2.block k (Nat.lt_of_lt_of_le hk h.size) hne).trans (h.block k hk hne)⟩
/-- What turns further is new. -/
theorem Only.then2 {A T : Nat} {w w1 w2 : World} (h : Only A w w1) (h2 : Only T w1 w2) (hT : w.heap.size ≤ T) : Only A w w2 :=
  ⟨h2.os.trans h.os, h2.tape.trans h.tape, h2.output.trans h.output, Nat.le_trans h.size h2.size, fun k hk hne => (h2.block k (Nat.lt_of_lt_of_le hk h.size) (by omega)).trans (h.block k hk hne)⟩
theorem Only.of_below {A : Nat} {w w' : World} (h : Below w.heap.size w w') : Only A w w' := ⟨h.os, h.tape, h.output, h.size, fun k hk _ => h.block k hk⟩
theorem Only.keeps {A b : Nat} {w w' : World} {o : Obj} (h : Only A w w') (hb : w.heap[b]? = some o) (hne : b ≠ A) : w'.heap[b]? = some o :=
  (h.block b (Array.getElem?_eq_some_iff.1 hb).1 hne).trans hb
theorem or_byte64 (n c : Nat) (hn : n < 72057594037927936) (hc : c < 256) : bits .or .u64 ((n * 256 : Nat) : Int) (c : Int) = ((n * 256 + c : Nat) : Int) := by
  have h := Nat.two_pow_add_eq_or_of_lt (i := 8) (b := c) hc n
  rw [(bits_nat .u64 64 (by decide) (fun n h0 h1 => by rw [IntKind.wrap_u64]; omega) (n * 256) c (by omega) (by omega)).2]
  have h3 : n * 256 ||| c = n * 256 + c := by rw [show n * 256 = 2 ^ 8 * n by omega, ← h]
  rw [h3]
/-- The trees as they are read. -/
def stepTs (m : List Nat) (k : Nat) : List NKd := rdRefs k m ++ nul5 k
theorem stepTs_five (m : List Nat) {k : Nat} (h : k ≤ 5) : (stepTs m k).length = 5 := by
  unfold stepTs nul5
  rw [List.length_append, rdRefs_length, List.length_replicate]
  omega
theorem stepTs_all (m : List Nat) : stepTs m 5 = rdRefs 5 m := by simp [stepTs, nul5]
theorem stepTs_next (m : List Nat) {k : Nat} (h : k < 5) : (stepTs m k).set k (rdRef (m.drop (16 * k))) = stepTs m (k + 1) := by
  unfold stepTs
  rw [rdRefs_snoc, List.set_append_right _ _ (by rw [rdRefs_length]; exact Nat.le_refl _), rdRefs_length, Nat.sub_self, List.append_assoc]
  congr 1
  unfold nul5
  rw [show 5 - k = (5 - (k + 1)) + 1 by omega, List.replicate_succ]
  rfl
end Go.By
namespace Go.Proofs.Ytkhpblclpcgjnaa
open Go Go.RowKit Go.By

/-- b[n:]. -/
theorem rest_run {w : World} {p : Option Addr} {cap i : Nat} {l : List Nat} (h : Bytes w (.slice p l.length cap) l) (hi : i ≤ l.length) :
    ∃ q c, (∀ w0 : World, (Instr.slice 28 (.slice p l.length cap) (some (.int .i64 (i : Int))) none none).run Try.prog w0 = .ok (.slice q (l.length - i) c) w0) ∧ Bytes w (.slice q (l.length - i) c) (l.drop i) := by
  obtain ⟨q, c, h1, h2⟩ := from_run (i := i) (n := l.length - i) h (by omega)
  refine ⟨q, c, h1, ?_⟩
  have e : pc l i (l.length - i) = l.drop i := by
    unfold pc
    exact List.take_of_length_le (by rw [List.length_drop]; exact Nat.le_refl _)
  rw [← e]
  exact h2

set_option maxRecDepth 100000 in
theorem takeNumber_any (w0 : World) (v : Value) (l : List Nat) (w : World) (hv0 : Bytes w0 v l) (hb : Below w0.heap.size w0 w) (h8 : 8 ≤ l.length) :
    Calls Try.prog 20 #[v] w fun e w' => ∃ v', e = .returned (.tuple #[.int .u64 (numOf (l.take 8) : Nat), v']) ∧ Bytes w0 v' (l.drop 8) ∧ Below w.heap.size w w' := by
  have hv := hv0.below hb
  obtain ⟨p, cap, rfl, _⟩ := hv.any
  have hup := fun w => upto_runI p l.length cap 8 8 rfl (by have := hv.room.2; omega) w
  obtain ⟨q, c, hfr, hq⟩ := rest_run hv0 h8
  have hfr2 : ∀ w0 : World, (Instr.slice 28 (.slice p l.length cap) (some (.int .i64 8)) none none).run Try.prog w0 = .ok (.slice q (l.length - 8) c) w0 := hfr
  have hdl : (l.length - 8 : Nat) = (l.drop 8).length := by rw [List.length_drop]
  obtain ⟨dl, hdl2⟩ : ∃ dl, dl = (l.length - 8 : Nat) := ⟨_, rfl⟩
  rw [← hdl2] at hfr2 hq
  have HQ := Lib.hid hq
  have HV := Lib.hid hv; have H8 := Lib.hid h8
  clear hv hv0 hb h8 hfr hq hdl hdl2
  obtain ⟨LN, hLN⟩ : ∃ n, n = l.length := ⟨_, rfl⟩
  rw [← hLN] at hup hfr2 ⊢
  have HLN := Lib.hid hLN
  have HVP : Hid (Bytes w (.slice p LN cap) l) := by rw [hLN]; exact HV.out
  clear hLN HV
  go_enter Try.func20, Try.ntmps20
  go_wp2
  go_loop [2, 9] (fun x i => ∃ k : Nat, k ≤ 8 ∧ i = .int .i64 k ∧ x = .int .u64 (numOf (l.take k) : Nat)) (fun _ i => 8 - (intOf i).toNat)
  case atStart => exact ⟨0, by omega, rfl, rfl⟩
  case round =>
    obtain ⟨k, hk, rfl, rfl⟩ := hrel
    have hll := H8.out
    by_cases hlt : k < 8
    · have hkl : k < l.length := by omega
      obtain ⟨b1, o1, rfl, hcell⟩ := HVP.out.spot k hkl
      have hn : numOf (l.take k) < 72057594037927936 := by
        have h1 := numOf_lt (l.take k) (fun c hc => HVP.out.small c (List.mem_of_mem_take hc))
        have h2 : 256 ^ (l.take k).length ≤ 256 ^ 7 := Nat.pow_le_pow_right (by omega) (by rw [List.length_take]; omega)
        exact Nat.lt_of_lt_of_le h1 (Nat.le_trans h2 (by decide))
      have hcl : atB l k < 256 := HVP.out.at_lt hkl
      have hs : numOf (l.take (k + 1)) = numOf (l.take k) * 256 + atB l k := by
        rw [List.take_succ_eq_append_getElem hkl, numOf_snoc, atB_of hkl]
      have HS := Lib.hid hs; clear hs
      have e1 := or_byte64 (numOf (l.take k)) (atB l k) hn hcl
      have e2 : IntKind.u64.wrap ((numOf (l.take k) : Int) * 256) = ((numOf (l.take k) * 256 : Nat) : Int) := by rw [IntKind.wrap_u64]; omega
      generalize numOf (l.take k) * 256 = z at *
      generalize numOf (l.take k) = x at *
      generalize atB l k = y at *
      generalize hzy : z + y = zy at *
      have hk8 : (k : Int) < 8 := by omega
      clear hn hzy hll
      go_wp2
      go_round
      case rel => exact ⟨k + 1, by omega, by go_num, by rw [HS.out]⟩
      case measure => simp [intOf]; omega
    · obtain rfl : k = 8 := by omega
      obtain ⟨x, hx⟩ : ∃ x, x = numOf (l.take 8) := ⟨_, rfl⟩
      rw [← hx]
      have HX := Lib.hid hx
      clear hll hx
      go_wp2
      go_region
      go_wp2
      go_ret2
      exact ⟨_, by rw [← HX.out]; rfl, HQ.out, (Below.refl _ _).drew⟩

/-- A part's method takes what it takes. -/
structure TkPart (w0 : World) (A : Nat) (f : FuncId) (l l' : List Nat) (S S' : World → Prop) : Prop where
  enter : ∀ args w, (callFunc f args).run Try.prog w = .ok (.enter f args) w
  takes : ∀ (v : Value) (w : World), Bytes w0 v l → Below w0.heap.size w0 w → S w →
    Calls Try.prog f #[.pointer (some ⟨A, 0, none⟩), v] w fun e w' => ∃ v', e = .returned v' ∧ Bytes w0 v' l' ∧ Only A w w' ∧ S' w'
def TkAt (w0 w : World) (A : Nat) (N : Nat) (rows : Nat → List Nat) (S : Nat → World → Prop) (x i : Value) (W : World) : Prop :=
  ∃ k : Nat, k ≤ N ∧ i = .int .i64 k ∧ Bytes w0 x (rows k) ∧ Only A w W ∧ S k W

set_option maxRecDepth 100000 in
set_option maxHeartbeats 2000000 in
theorem tk_along_tree (w0 : World) (A : Nat) (fs : List FuncId) (rows : Nat → List Nat) (S : Nat → World → Prop) (rb : Nat) (v : Value) (w : World) (hv : Bytes w0 v (rows 0)) (hb : Below w0.heap.size w0 w) (hA : w0.heap.size ≤ A) (h4 : fs.length ≤ 4) (hS : S 0 w)
    (hP : ∀ (i : Nat) f, fs[i]? = some f → TkPart w0 A f (rows i) (rows (i + 1)) (S i) (S (i + 1)))
    (hrow : ∀ (i : Nat) f, fs[i]? = some f → w.cell? ⟨rb, i, none⟩ = some (.func (.func f) #[] #[])) (hrb : rb < w.heap.size) (hne : rb ≠ A) (N : Nat) (hN : N = fs.length) :
    Calls Try.prog 21 #[.pointer (some ⟨A, 0, none⟩), v, .slice (some ⟨rb, 0, none⟩) N N] w fun e w' => ∃ v', e = .returned v' ∧ Bytes w0 v' (rows N) ∧ Only A w w' ∧ S N w' := by
  have H0 : Hid (TkAt w0 w A N rows S v (.int .i64 (0 : Nat)) w) := ⟨0, by omega, rfl, hv, Only.refl _ _, hS⟩
  obtain ⟨p0, cap0, rfl, _⟩ := hv.any
  have HP := Lib.hid hP; have HROW := Lib.hid hrow; have HB := Lib.hid hb; have HA := Lib.hid hA; have HN := Lib.hid hN; have HRB := Lib.hid hrb; have HNE := Lib.hid hne
  have hN4 : (N : Int) ≤ 4 := by omega
  generalize (rows 0).length = L0 at *
  clear hv hb hA h4 hS hP hrow hrb hne hN
  go_enter Try.func21, Try.ntmps21
  go_wp2
  go_loopw [1, 11] (fun x i W => TkAt w0 w A N rows S x i W) (fun _ i _ => 6 - (intOf i).toNat)
  case atStart => exact H0.out
  case round =>
    clear H0
    obtain ⟨k, hk, rfl, hby, hon, hst⟩ := hrel
    obtain ⟨p, cap, rfl, _⟩ := hby.any
    by_cases hlt : k < N
    · have hkf : k < fs.length := by rw [← HN.out]; exact hlt
      obtain ⟨f, hf⟩ : ∃ f, fs[k]? = some f := ⟨_, List.getElem?_eq_getElem hkf⟩
      have hpart := HP.out k f hf
      have hent := hpart.enter
      have hcell : wr.cell? ⟨rb, k, none⟩ = some (.func (.func f) #[] #[]) := by
        have h1 := HROW.out k f hf
        unfold World.cell? at h1 ⊢
        rw [hon.block rb HRB.out HNE.out]
        exact h1
      have HT := Lib.hid (hpart.takes _ wr hby (hon.below HB.out HA.out) hst)
      have HON := Lib.hid hon; have HK := Lib.hid hlt
      generalize (rows k).length = LK at *
      clear hby hon hst hpart hkf hf hk
      go_wp2_with fail
      refine HT.out.mono ?_
      rintro e w1 ⟨v1, rfl, hby1, honly, hst1⟩
      have HR : Hid (TkAt w0 w A N rows S v1 (.int .i64 (k + 1 : Nat)) w1) := ⟨k + 1, HK.out, rfl, hby1, HON.out.trans honly, hst1⟩
      clear hby1 honly hst1 HT
      go_wp2
      go_roundw
      case rel => exact HR.out
      case measure => simp [intOf]; omega
    · obtain rfl : k = N := by omega
      have HEND : Hid (∃ v', Ending.returned (.slice p (rows k).length cap) = .returned v' ∧ Bytes w0 v' (rows k) ∧ Only A w wr ∧ S k wr) := ⟨_, rfl, hby, hon, hst⟩
      clear hby hon hst hk
      generalize (rows k).length = LK at *
      go_wp2
      go_ret
      obtain ⟨v', h1, h2⟩ := HEND.out
      exact ⟨v', h1, h2⟩

set_option maxRecDepth 100000 in
set_option maxHeartbeats 2000000 in
theorem tk_along_root (w0 : World) (A : Nat) (fs : List FuncId) (rows : Nat → List Nat) (S : Nat → World → Prop) (rb : Nat) (v : Value) (w : World) (hv : Bytes w0 v (rows 0)) (hb : Below w0.heap.size w0 w) (hA : w0.heap.size ≤ A) (h4 : fs.length ≤ 4) (hS : S 0 w)
    (hP : ∀ (i : Nat) f, fs[i]? = some f → TkPart w0 A f (rows i) (rows (i + 1)) (S i) (S (i + 1)))
    (hrow : ∀ (i : Nat) f, fs[i]? = some f → w.cell? ⟨rb, i, none⟩ = some (.func (.func f) #[] #[])) (hrb : rb < w.heap.size) (hne : rb ≠ A) (N : Nat) (hN : N = fs.length) :
    Calls Try.prog 11 #[.pointer (some ⟨A, 0, none⟩), v, .slice (some ⟨rb, 0, none⟩) N N] w fun e w' => ∃ v', e = .returned v' ∧ Bytes w0 v' (rows N) ∧ Only A w w' ∧ S N w' := by
  have H0 : Hid (TkAt w0 w A N rows S v (.int .i64 (0 : Nat)) w) := ⟨0, by omega, rfl, hv, Only.refl _ _, hS⟩
  obtain ⟨p0, cap0, rfl, _⟩ := hv.any
  have HP := Lib.hid hP; have HROW := Lib.hid hrow; have HB := Lib.hid hb; have HA := Lib.hid hA; have HN := Lib.hid hN; have HRB := Lib.hid hrb; have HNE := Lib.hid hne
  have hN4 : (N : Int) ≤ 4 := by omega
  generalize (rows 0).length = L0 at *
  clear hv hb hA h4 hS hP hrow hrb hne hN
  go_enter Try.func11, Try.ntmps11
  go_wp2
  go_loopw [1, 11] (fun x i W => TkAt w0 w A N rows S x i W) (fun _ i _ => 6 - (intOf i).toNat)
  case atStart => exact H0.out
  case round =>
    clear H0
    obtain ⟨k, hk, rfl, hby, hon, hst⟩ := hrel
    obtain ⟨p, cap, rfl, _⟩ := hby.any
    by_cases hlt : k < N
    · have hkf : k < fs.length := by rw [← HN.out]; exact hlt
      obtain ⟨f, hf⟩ : ∃ f, fs[k]? = some f := ⟨_, List.getElem?_eq_getElem hkf⟩
      have hpart := HP.out k f hf
      have hent := hpart.enter
      have hcell : wr.cell? ⟨rb, k, none⟩ = some (.func (.func f) #[] #[]) := by
        have h1 := HROW.out k f hf
        unfold World.cell? at h1 ⊢
        rw [hon.block rb HRB.out HNE.out]
        exact h1
      have HT := Lib.hid (hpart.takes _ wr hby (hon.below HB.out HA.out) hst)
      have HON := Lib.hid hon; have HK := Lib.hid hlt
      generalize (rows k).length = LK at *
      clear hby hon hst hpart hkf hf hk
      go_wp2_with fail
      refine HT.out.mono ?_
      rintro e w1 ⟨v1, rfl, hby1, honly, hst1⟩
      have HR : Hid (TkAt w0 w A N rows S v1 (.int .i64 (k + 1 : Nat)) w1) := ⟨k + 1, HK.out, rfl, hby1, HON.out.trans honly, hst1⟩
      clear hby1 honly hst1 HT
      go_wp2
      go_roundw
      case rel => exact HR.out
      case measure => simp [intOf]; omega
    · obtain rfl : k = N := by omega
      have HEND : Hid (∃ v', Ending.returned (.slice p (rows k).length cap) = .returned v' ∧ Bytes w0 v' (rows k) ∧ Only A w wr ∧ S k wr) := ⟨_, rfl, hby, hon, hst⟩
      clear hby hon hst hk
      generalize (rows k).length = LK at *
      go_wp2
      go_ret
      obtain ⟨v', h1, h2⟩ := HEND.out
      exact ⟨v', h1, h2⟩
end Go.Proofs.Ytkhpblclpcgjnaa

