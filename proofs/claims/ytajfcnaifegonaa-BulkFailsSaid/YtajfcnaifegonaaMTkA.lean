/- Nodes in a program: a leaf laid as bytes, by the document. -/
import Derived.Test.YtajfcnaifegonaaMTrL
import Derived.Test.YtajfcnaifegonaaMTxtJ
import Derived.Deep.RegionHeld3
import Derived.Test.YtajfcnaifegonaaMNdN
import Derived.Test.YtajfcnaifegonaaMRefN
import Derived.Test.YtajfcnaifegonaaMDskA
import Derived.Test.YtajfcnaifegonaaMRdC
namespace Go.Proofs.Ytajfcnaifegonaa.Sl.Nd
open Go Go.RowKit Go.By
def lfOf (its : List NIt) (k : Nat) : List Nat := 76 :: its.length :: (its.take k).flatMap itOf
end Go.Proofs.Ytajfcnaifegonaa.Sl.Nd
/- Nodes in a program: a node that is no leaf laid as bytes, by the document. -/
namespace Go.Proofs.Ytajfcnaifegonaa.Sl.Nd
open Go Go.RowKit Go.By
structure Ph (W cur : World) (v : Value) (M : List Nat) (r1 : Value) (l1 : List Nat) (r2 : Value) (l2 : List Nat) : Prop where
  below : Below W.heap.size W cur
  own : cur.ownsRow W.heap.size 5 1 v M.length (cellsOf M)
  y1 : Bytes cur r1 l1
  y2 : Bytes cur r2 l2
  s2 : l2 ≠ [] → v.ownBlock ≠ r2.ownBlock
def inOf (n : Nd) (k : Nat) : List Nat := 78 :: n.kids.length :: ((n.ks.zip n.kids).take k).flatMap kdOf
end Go.Proofs.Ytajfcnaifegonaa.Sl.Nd
/- Nodes in a program: which may be, and how one is laid, by the document: whole. -/
namespace Go.Proofs.Ytajfcnaifegonaa.Sl.Nd
open Go Go.RowKit Go.By
theorem refMay_any {w : World} {v : Value} {n : Nd} {pi pk pd : Option Addr} {ci ck cd : Nat} (h : IsNd w v n pi ci pk ck pd cd) (hsm : n.leaf = true → n.ks.length + n.kids.length ≤ 1152921504606846976) :
    Calls Try.prog 73 #[v] w (TruthTold w (mayNd n)) := by
  cases hl : n.leaf with
  | true => exact refMay_leaf h hl (hsm hl)
  | false => exact refMay_inner h hl
end Go.Proofs.Ytajfcnaifegonaa.Sl.Nd
/- Nodes in a program: one is taken, by the document. -/
namespace Go.Proofs.Ytajfcnaifegonaa.Sl.Nd
open Go Go.RowKit Go.By
theorem nd_ret {tmps : Array Value} {w : World} {A : Nat} {cs : Array Value} {x : Value} (hp : tmps.getD 2 undef = .pointer (some ⟨A, 0, none⟩)) (hx : tmps.getD 3 undef = x) (hg : w.heap[A]? = some (.cells cs 93 (0, 0))) (hc : cs.size = 4) :
    (results Try.f44 tmps).run Try.prog w = .ok (.tuple #[.agg cs, x]) w := by
  have hi : (Try.prog.info? 93).map (·.size) = some cs.size := by rw [hc]; kernel_rfl
  have hq : (Try.prog.underlying 93).map (fun d => match d with | .struct _ | .array _ _ => true | _ => false) = some true := by kernel_rfl
  obtain ⟨d, hu, hd⟩ := Option.map_eq_some_iff.1 hq
  rw [results_cell_tmp (p := 2) (u := 3) (ty := 93) (by kernel_rfl), hp, hx]
  have := run_loadVar_row (P := Try.prog) w A 93 93 cs (0, 0) d hg hu (by cases d <;> simp_all) hi
  simp [asAddr, this, Result.andThen]
theorem two_lt {l : List Nat} (h : ∀ c ∈ l, c < 256) : numOf (rdTake 1 (some l)).1 < 256 ∧ numOf (rdTake 1 (rdTake 1 (some l)).2).1 < 256 := by
  match l, h with
  | [], _ =>
    have e : rdTake 1 (some []) = ([], none) := rfl
    rw [e]
    exact ⟨by decide, by decide⟩
  | [k], h =>
    have e : rdTake 1 (some [k]) = ([k], some []) := by unfold rdTake; simp
    rw [e]
    refine ⟨by rw [numOf_oneW]; exact h k (by simp), ?_⟩
    have e : rdTake 1 (some []) = ([], none) := rfl
    dsimp only
    rw [e]
    decide
  | k :: c :: r, h =>
    have e : rdTake 1 (some (k :: c :: r)) = ([k], some (c :: r)) := by unfold rdTake; simp
    have e2 : rdTake 1 (some (c :: r)) = ([c], some r) := by unfold rdTake; simp
    rw [e]
    dsimp only
    rw [e2]
    dsimp only
    rw [numOf_oneW, numOf_oneW]
    exact ⟨h k (by simp), h c (by simp)⟩
theorem nd_set {w : World} {A : Nat} {x0 x1 x2 x3 : Value} (h : w.heap[A]? = some (.cells #[x0, x1, x2, x3] 93 (0, 0))) (a b c d : Value) :
    ((((w.setCell ⟨A, 0, none⟩ a).setCell ⟨A, 1, none⟩ b).setCell ⟨A, 2, none⟩ c).setCell ⟨A, 3, none⟩ d).heap[A]? = some (.cells #[a, b, c, d] 93 (0, 0)) := set_heap (set_heap (set_heap (set_heap h 0 a) 1 b) 2 c) 3 d
theorem nd_only (w : World) (A : Nat) (a b c d : Value) : Only A w ((((w.setCell ⟨A, 0, none⟩ a).setCell ⟨A, 1, none⟩ b).setCell ⟨A, 2, none⟩ c).setCell ⟨A, 3, none⟩ d) := (((Only.set A 0 w a).trans (Only.set A 1 _ b)).trans (Only.set A 2 _ c)).trans (Only.set A 3 _ d)
theorem nd_below {B : Nat} {w0 w : World} {A : Nat} (h : Below B w0 w) (hB : B ≤ A) (a b c d : Value) : Below B w0 ((((w.setCell ⟨A, 0, none⟩ a).setCell ⟨A, 1, none⟩ b).setCell ⟨A, 2, none⟩ c).setCell ⟨A, 3, none⟩ d) := (((h.setCell hB a).setCell hB b).setCell hB c).setCell hB d
theorem wrap_is64 (x : Int) : IntKind.i64.wrap x = RowKit.wrap64 x := by
  rw [IntKind.wrap_i64]
  unfold RowKit.wrap64
  omega
theorem RdN.num8 {w0 w : World} {A g nb : Nat} {cs : Array Value} {s : Option (List Nat)} (h : RdN w0 A g nb w cs s) : Calls Try.prog 71 #[.pointer (some ⟨g, 0, none⟩), .int .i64 8] w fun e w' => e = .returned (.int .u64 (numOf (rdTake 8 s).1 : Nat)) ∧ RdN w0 A g nb w' cs (rdTake 8 s).2 ∧ Only g w w' := h.num 8 (by decide)
def TnTold (w : World) (l : List Nat) (z : Ending) (w' : World) : Prop :=
  Below w.heap.size w w' ∧ ((takeNd l = none ∧ z = .returned (.tuple #[.agg #[.bool false, .slice none 0 0, .slice none 0 0, .slice none 0 0], .int .i64 2])) ∨
    ∃ n x pi ci pk ck pd cd, takeNd l = some n ∧ z = .returned (.tuple #[x, .int .i64 0]) ∧ IsNd w' x n pi ci pk ck pd cd ∧ ItRow w' w.heap.size (.slice pi n.its.length ci) n.its)
def LfRel (w : World) (A G nb C : Nat) (s0 : Option (List Nat)) (i : Value) (W : World) : Prop :=
  ∃ (k : Nat) (iv : Value) (its : List NIt) (s : Option (List Nat)), k ≤ C ∧ i = .int .i64 k ∧ its.length = k ∧ RdN w A G nb W #[.bool true, iv, .slice none 0 0, .slice none 0 0] s ∧ ItRow W w.heap.size iv its ∧
    match s0 with | some r0 => Pst pIt C r0 k its s | none => s = none
def InRel (w : World) (A G nb C : Nat) (s0 : Option (List Nat)) (i : Value) (W : World) : Prop :=
  ∃ (k : Nat) (kv dv : Value) (xs : List (List Nat × NKd)) (s : Option (List Nat)), k ≤ C ∧ i = .int .i64 k ∧ xs.length = k ∧ RdN w A G nb W #[.bool false, .slice none 0 0, kv, dv] s ∧ KyRow W w.heap.size kv (xs.map (·.1)) ∧ KdRow W w.heap.size dv (xs.map (·.2)) ∧
    match s0 with | some r0 => Pst pKd C r0 k xs s | none => s = none
set_option maxRecDepth 100000 in
set_option maxHeartbeats 16000000 in
theorem refTakeNd_any (v : Value) (l : List Nat) (w : World) (hv : Bytes w v l) : Calls Try.prog 44 #[v] w (TnTold w l) := by
  obtain ⟨p, cap, hveq⟩ : ∃ p cap, v = .slice p l.length cap := let ⟨p, cap, h, _⟩ := hv.any; ⟨p, cap, h⟩
  subst hveq
  have HV := Lib.hid hv
  clear hv
  go_enter Try.func44, Try.ntmps44
  go_wp2_with fail
  obtain ⟨W1, hW1⟩ : ∃ W, W = (w.alloc (.cells #[.bool false, .slice none 0 0, .slice none 0 0, .slice none 0 0] 93)).alloc (.cells #[.slice p l.length cap, .bool false] 137) := ⟨_, rfl⟩
  rw [← hW1]
  have hB1 : Below w.heap.size w W1 := by rw [hW1]; exact ((Below.refl _ _).alloc (Nat.le_refl _) _).alloc (by simp) _
  have hz1 : W1.heap.size = w.heap.size + 2 := by rw [hW1]; simp
  have ha1 : W1.heap[w.heap.size]? = some (.cells #[.bool false, .slice none 0 0, .slice none 0 0, .slice none 0 0] 93 (0, 0)) := by
    rw [hW1, Below.heap_alloc _ _ _ (by simp)]
    exact heap_alloc_new w _
  have hg1 : W1.heap[w.heap.size + 1]? = some (.cells #[.slice p l.length cap, .bool false] 137 (0, 0)) := by
    have := heap_alloc_new (w.alloc (.cells #[.bool false, .slice none 0 0, .slice none 0 0, .slice none 0 0] 93)) (.cells #[.slice p l.length cap, .bool false] 137)
    rw [World.size_alloc] at this
    rw [hW1]; exact this
  have hr1 : RdOf w W1 (w.heap.size + 1) l false := ⟨_, hg1, HV.out⟩
  obtain ⟨A, hA⟩ : ∃ A, A = w.heap.size := ⟨_, rfl⟩
  obtain ⟨G, hG⟩ : ∃ G, G = w.heap.size + 1 := ⟨_, rfl⟩
  rw [← hG] at hr1 ⊢
  rw [← hA] at ha1
  simp only [← hA]
  have HA := Lib.hid hA; have HG := Lib.hid hG
  have HB1 := Lib.hid hB1; have HZ1 := Lib.hid hz1; have HA1 := Lib.hid ha1
  have HGW : Hid (w.heap.size ≤ G) := by unfold Hid; omega
  clear hW1 hB1 hz1 ha1 hg1 hA hG
  refine (roNum_any w G 1 l false W1 hr1 HB1.out HGW.out (by omega)).mono ?_
  clear hr1
  rintro z w2 ⟨l2, b2, rfl, hs2, hr2, hg2⟩
  have HS2 := Lib.hid hs2
  have HB2 : Hid (Below w.heap.size w w2) := HB1.out.grown hg2 HB1.out.size (fun k hk => by have := Option.some.inj hk; have := HG.out; omega)
  have HA2 : Hid (w2.heap[A]? = _) := (hg2.block A (by have := HZ1.out; have := HA.out; omega) (by intro h; have := Option.some.inj h; have := HA.out; have := HG.out; omega)).trans HA1.out
  have HZ2 : Hid (w.heap.size + 2 ≤ w2.heap.size) := by have := hg2.size; have := HZ1.out; unfold Hid; omega
  have HN2 := Lib.hid (roNum_any w G 1 l2 b2 w2 hr2 HB2.out HGW.out (by omega))
  clear hs2 hr2 hg2
  generalize hN1 : numOf (rdTake 1 (rdS l false)).1 = N1
  have HN1 := Lib.hid hN1
  clear hN1
  go_wp2_with fail
  refine HN2.out.mono ?_
  rintro z w3 ⟨l3, b3, rfl, hs3, hr3, hg3⟩
  have hst : numOf (rdTake 1 (rdS l2 b2)).1 = numOf (rdTake 1 (rdTake 1 (some l)).2).1 := by rw [HS2.out]; rfl
  have hs3' : rdS l3 b3 = (rdTake 1 (rdTake 1 (some l)).2).2 := by rw [hs3, HS2.out]; rfl
  obtain ⟨hk256, hc256⟩ := two_lt HV.out.small
  have hN1' : numOf (rdTake 1 (some l)).1 = N1 := HN1.out
  rw [hN1'] at hk256
  rw [← hst] at hc256
  generalize hC : numOf (rdTake 1 (rdS l2 b2)).1 = C at hst hc256 ⊢
  have HC := Lib.hid hst; have HK := Lib.hid hN1'
  have hB3 : Below w.heap.size w w3 := HB2.out.grown hg3 HB2.out.size (fun k hk => by have := Option.some.inj hk; have := HG.out; omega)
  have hA3 : w3.heap[A]? = _ := (hg3.block A (by have := HZ2.out; have := HA.out; omega) (by intro h; have := Option.some.inj h; have := HA.out; have := HG.out; omega)).trans HA2.out
  obtain ⟨s0, hs0⟩ : ∃ s0, s0 = rdS l3 b3 := ⟨_, rfl⟩
  have hgl := hr3
  have HSC : Hid (s0 = (rdTake 1 (rdTake 1 (some l)).2).2) := hs0.trans hs3'
  have HZ3 : Hid (w.heap.size + 2 ≤ w3.heap.size) := by have := hg3.size; have := HZ2.out; unfold Hid; omega
  have HB3 := Lib.hid hB3; have HA3 := Lib.hid hA3; have HR3 := Lib.hid hr3; have HS0 := Lib.hid hs0
  have q1 : (C : Int) < 256 := by omega
  have q2 : (0 : Int) ≤ C := by omega
  have q3 : (N1 : Int) < 256 := by omega
  clear hC hst hs3 hs3' hN1' hB3 hA3 hg3 hr3 hgl hs0 HN2 HB2 HA2 HZ2 HB1 HZ1 HA1 HN1 HS2 hc256 hk256
  by_cases hk : N1 = 76
  · subst hk
    have hnew : Below w3.heap.size w3 (w3.alloc (.cells #[.bool true, .slice none 0 0, .slice none 0 0, .slice none 0 0] 93)) := (Below.refl _ _).alloc (Nat.le_refl _) _
    have H0 : Hid (LfRel w A G w3.heap.size C s0 (.int .i64 (0 : Nat)) (w3.alloc (.cells #[.bool true, .slice none 0 0, .slice none 0 0, .slice none 0 0] 93))) := by
      refine ⟨0, .slice none 0 0, [], s0, Nat.zero_le _, rfl, rfl, ⟨⟨l3, b3, ?_, HS0.out⟩, heap_alloc_new w3 _, HB3.out.trans (hnew.mono HB3.out.size), HGW.out, HB3.out.size, ?_, by rw [HA.out]; exact Nat.le_refl _, ?_⟩, ItRow.nil _ _, ?_⟩
      · obtain ⟨u, h1, h2⟩ := HR3.out
        exact ⟨u, (hnew.block _ (Array.getElem?_eq_some_iff.1 h1).1).trans h1, h2⟩
      · exact (hnew.block _ (Array.getElem?_eq_some_iff.1 HA3.out).1).trans HA3.out
      · have := (Array.getElem?_eq_some_iff.1 HA3.out).1; omega
      · cases s0 with
        | none => rfl
        | some r0 => exact pst_zero _ _ _
    obtain ⟨nb, hnb⟩ : ∃ x, x = w3.heap.size := ⟨_, rfl⟩
    rw [← hnb] at H0
    have HNB := Lib.hid hnb
    clear hnew hnb
    go_wp2
    rw [← HNB.out]
    go_loopw [8] (fun i W' => LfRel w A G nb C s0 i W') (fun i _ => C - (intOf i).toNat)
    case atStart => exact H0.out
    case round =>
      clear H0
      obtain ⟨k, iv, its, s, hk, rfl, hlen, hR, hI, hP⟩ := hrel
      obtain ⟨rv, hrc, hrb⟩ := hR.at_
      have g0 := cells_of hrc 0
      have g1 := cells_of hrc 1
      simp only [List.getElem?_toArray, List.getElem?_cons_zero, List.getElem?_cons_succ] at g0 g1
      obtain ⟨pi, ci, rfl, -⟩ := hI.at_
      cases s with
      | none =>
        have HTN : Hid (takeNd l = none) := by
          obtain ⟨t1, t2⟩ := take_two l
          cases s0 with
          | none => exact (t1 HSC.out.symm).1
          | some r0 =>
            unfold Hid
            rw [t2 r0 HSC.out.symm, HK.out, if_pos rfl, ← HC.out]
            exact body_lf_no hP
        rw [show (none : Option (List Nat)).isNone = true from rfl] at g1
        have HXA := Lib.hid (nd_set hR.res (.bool false) (.slice none 0 0) (.slice none 0 0) (.slice none 0 0))
        have HBX := Lib.hid (nd_below hR.below hR.hA (.bool false) (.slice none 0 0) (.slice none 0 0) (.slice none 0 0))
        have a0 := cells_of hR.res 0; have a1 := cells_of hR.res 1; have a2 := cells_of hR.res 2; have a3 := cells_of hR.res 3
        have q10 := free_of hR.res 0; have q11 := free_of hR.res 1; have q12 := free_of hR.res 2; have q13 := free_of hR.res 3
        simp only [List.getElem?_toArray, List.getElem?_cons_zero, List.getElem?_cons_succ] at a0 a1 a2 a3
        clear hR hI hP hrc hrb hk hlen
        by_cases hlt : k < C
        · have hii : (k : Int) < C := by omega
          go_wp2
          refine bodyPost_ret (nd_ret rfl rfl HXA.out rfl) rfl ?_
          exact ⟨HBX.out, .inl ⟨HTN.out, rfl⟩⟩
        · have hii : ¬ (k : Int) < C := by omega
          go_wp2
          refine bodyPost_ret (nd_ret rfl rfl HXA.out rfl) rfl ?_
          exact ⟨HBX.out, .inl ⟨HTN.out, rfl⟩⟩
      | some r =>
        by_cases hlt : k < C
        · have hii : (k : Int) < C := by omega
          rw [show (some r : Option (List Nat)).isNone = false from rfl] at g1
          obtain ⟨r0, rfl⟩ : ∃ r0, s0 = some r0 := by
            cases s0 with
            | none => cases hP
            | some r0 => exact ⟨r0, rfl⟩
          have hP2 := pst_it hP hlt
          have HT := Lib.hid hR.text
          have HRR := Lib.hid hR; have HI := Lib.hid hI; have HLEN := Lib.hid hlen; have HP2 := Lib.hid hP2; have HLT := Lib.hid hlt; have HRC := Lib.hid hrc
          have HKC := Lib.hid hk
          clear hR hI hlen hP2 hP hlt hrc hrb hk
          go_wp2_with fail
          refine HT.out.mono ?_
          rintro e w5 ⟨v5, rfl, ht5, hR5, hO5⟩
          have hI5 := HI.out.onlyT HRC.out ⟨ty_rd.1, ty_rd.2.1⟩ hO5
          have n0 := cells_of hR5.nd 0
          have n1 := cells_of hR5.nd 1
          simp only [List.getElem?_toArray, List.getElem?_cons_zero, List.getElem?_cons_succ] at n0 n1
          have hbz : Below w5.heap.size w5 w5.drew := (Below.refl _ _).drew
          have hRd := hR5.new hbz
          have HT2 := Lib.hid hRd.text
          have HR5 := Lib.hid hRd; have HI5 := Lib.hid (hI5.below' hbz); have HT5 := Lib.hid (ht5.below' hbz)
          obtain ⟨pa, ca, rfl, -⟩ := ht5.bytes.any
          obtain ⟨rv5, hrc5, -⟩ := HR5.out.at_
          have HRC5 := Lib.hid hrc5
          have HRUN : Hid (∀ w6 v6, Txt w6 w.heap.size v6 (rdText (rdText (some r)).2).1 → RdN w A G nb w6 #[.bool true, .slice pi its.length ci, .slice none 0 0, .slice none 0 0] (rdText (rdText (some r)).2).2 → Only G w5.drew w6 →
              ∃ pb cb p' c' w', v6 = .slice pb (rdText (rdText (some r)).2).1.length cb ∧ (Builtin.append_ #[30, 30] 30 #[.slice pi its.length ci, .slice (some ⟨w6.heap.size, 0, none⟩) 1 1]).run Try.prog (w6.alloc (.cells #[.slice pa (rdText (some r)).1.length ca, v6] 34)) = .ok (.slice p' (its.length + 1) c') w' ∧
                w6.cell? ⟨nb, 1, none⟩ = some (.slice pi its.length ci) ∧ (w6.alloc (.cells #[.slice pa (rdText (some r)).1.length ca, v6] 34)).cell? ⟨nb, 1, none⟩ = some (.slice pi its.length ci) ∧ w'.cell? ⟨nb, 1, none⟩ = some (.slice pi its.length ci) ∧ w'.frozen? ⟨nb, 1, none⟩ = false ∧
                LfRel w A G nb C (some r0) (.int .i64 (k + 1 : Nat)) (w'.setCell ⟨nb, 1, none⟩ (.slice p' (its.length + 1) c'))) := by
            intro w6 v6 ht6 hR6 hO6
            have ht56 := HT5.out.onlyT HRC5.out ty_rd.1 hO6
            have hI6 := HI5.out.onlyT HRC5.out ⟨ty_rd.1, ty_rd.2.1⟩ hO6
            obtain ⟨p', c', w', hrun, hnd', hR7, hI7⟩ := it_push (it := ⟨(rdText (some r)).1, (rdText (rdText (some r)).2).1⟩) hR6 hI6 (by have := HLEN.out; have := HKC.out; omega) ht56 ht6
            obtain ⟨pb, cb, rfl, -⟩ := ht6.bytes.any
            have m1 := cells_of hR6.nd 1
            exact ⟨pb, cb, p', c', w', rfl, hrun, m1, (World.cell?_alloc_lt _ _ _ hR6.ltn).trans m1, cells_of hnd' 1, free_of hnd' 1,
              ⟨k + 1, _, its ++ [(stIt (some r)).1], (stIt (some r)).2, HLT.out, rfl, by rw [List.length_append, HLEN.out]; rfl, hR7, hI7, HP2.out⟩⟩
          obtain ⟨NL, hNL⟩ : ∃ x, x = its.length := ⟨_, rfl⟩
          rw [← hNL] at HRUN n1 HT2
          generalize (rdText (some r)).1.length = la at *
          clear HR5 HI5 HT5 HRC5 hrc5 ht5 hR5 hO5 hI5 hbz hRd HT HRR HRC HI hNL HP2
          go_wp2_with fail
          go_region_law (first
            | (go_simp; go_at_call 72; with_reducible refine HT2.out.mono ?_; rintro e w6 ⟨v6, rfl, ht6, hR6, hO6⟩; obtain ⟨pb, cb, p7, c7, w7, rfl, hrun7, m1, m2, m3, m4, hend⟩ := HRUN.out w6 _ ht6 hR6 hO6; have HEND := Lib.hid hend; clear ht6 hR6 hO6 hend)
            | (refine step_append_run rfl (.tmp 38) (.tmp 43) 30 30 rfl (.slice pi NL ci) (.slice (some ⟨w6.heap.size, 0, none⟩) 1 1) rfl rfl (.slice p7 (NL + 1) c7) w7 hrun7 ?_; clear hrun7))
          all_goals
            go_wp2
            go_roundw
            case rel => exact HEND.out
            case measure => simp [intOf]; have := HLT.out; omega
        · have hx1 : True := trivial
          have hii : ¬ (k : Int) < C := by omega
          obtain rfl : k = C := by omega
          rw [show (some r : Option (List Nat)).isNone = false from rfl] at g1
          obtain ⟨r0, rfl⟩ : ∃ r0, s0 = some r0 := by
            cases s0 with
            | none => cases hP
            | some r0 => exact ⟨r0, rfl⟩
          have htk : takeNd l = if r = [] ∧ mayNd (Go.By.lfOf its) = true then some (Go.By.lfOf its) else none := by
            rw [(take_two l).2 r0 HSC.out.symm, HK.out, if_pos rfl, ← HC.out]
            exact body_lf hP
          have hrv := hrb r rfl
          obtain ⟨pr, cr, rfl, -⟩ := hrv.any
          have a0 := cells_of hR.res 0; have a1 := cells_of hR.res 1; have a2 := cells_of hR.res 2; have a3 := cells_of hR.res 3
          have q10 := free_of hR.res 0; have q11 := free_of hR.res 1; have q12 := free_of hR.res 2; have q13 := free_of hR.res 3
          simp only [List.getElem?_toArray, List.getElem?_cons_zero, List.getElem?_cons_succ] at a0 a1 a2 a3
          by_cases hr0 : 0 < r.length
          · have hri : (0 : Int) < r.length := by omega
            have HTN : Hid (takeNd l = none) := by
              unfold Hid
              rw [htk, if_neg (fun e => by rw [e.1] at hr0; exact absurd hr0 (Nat.lt_irrefl 0))]
            have HXA := Lib.hid (nd_set hR.res (.bool false) (.slice none 0 0) (.slice none 0 0) (.slice none 0 0))
            have HBX := Lib.hid (nd_below hR.below hR.hA (.bool false) (.slice none 0 0) (.slice none 0 0) (.slice none 0 0))
            clear hR hI hP hrc hrb hk hlen htk hrv hr0
            generalize r.length = RL at *
            go_wp2
            refine bodyPost_ret (nd_ret rfl rfl HXA.out rfl) rfl ?_
            exact ⟨HBX.out, .inl ⟨HTN.out, rfl⟩⟩
          · obtain rfl : r = [] := List.eq_nil_of_length_eq_zero (by omega)
            have hIS : IsNd wr (.agg #[.bool true, .slice pi its.length ci, .slice none 0 0, .slice none 0 0]) (Go.By.lfOf its) pi ci none 0 none 0 := by
              obtain ⟨p', c', he, hat⟩ := hI.at_
              cases he
              exact ⟨rfl, hat, RowAt.nil, RowAt.nil⟩
            have HMAY := Lib.hid (refMay_any hIS (fun _ => by show 0 + 0 ≤ _; omega))
            have n0 := cells_of hR.nd 0; have n1 := cells_of hR.nd 1; have n2 := cells_of hR.nd 2; have n3 := cells_of hR.nd 3
            simp only [List.getElem?_toArray, List.getElem?_cons_zero, List.getElem?_cons_succ] at n0 n1 n2 n3
            have HRR := Lib.hid hR; have HI := Lib.hid hI; have HTK := Lib.hid htk
            clear hR hI hP hrc hrb hk hlen htk hrv hr0 hIS a0 a1 a2 a3 q10 q11 q12 q13
            generalize its.length = NL at *
            go_wp2_with fail
            refine HMAY.out.mono ?_
            rintro e w6 ⟨rfl, hb6⟩
            have hR6 := HRR.out.new hb6
            have hI6 := HI.out.below' hb6
            have a0 := cells_of hR6.res 0; have a1 := cells_of hR6.res 1; have a2 := cells_of hR6.res 2; have a3 := cells_of hR6.res 3
            have q10 := free_of hR6.res 0; have q11 := free_of hR6.res 1; have q12 := free_of hR6.res 2; have q13 := free_of hR6.res 3
            simp only [List.getElem?_toArray, List.getElem?_cons_zero, List.getElem?_cons_succ] at a0 a1 a2 a3
            cases hm : mayNd (Go.By.lfOf its) with
            | false =>
              have HTN : Hid (takeNd l = none) := by
                unfold Hid
                rw [HTK.out, if_neg (fun e => by rw [hm] at e; cases e.2)]
              have HXA := Lib.hid (nd_set hR6.res (.bool false) (.slice none 0 0) (.slice none 0 0) (.slice none 0 0))
              have HBX := Lib.hid (nd_below hR6.below hR6.hA (.bool false) (.slice none 0 0) (.slice none 0 0) (.slice none 0 0))
              clear hR6 hI6 hb6
              go_wp2
              refine bodyPost_ret (nd_ret rfl rfl HXA.out rfl) rfl ?_
              exact ⟨HBX.out, .inl ⟨HTN.out, rfl⟩⟩
            | true =>
              have htn : takeNd l = some (Go.By.lfOf its) := by rw [HTK.out]; simp [hm]
              have HTN := Lib.hid htn
              have hXI := hI6.onlyT hR6.res ⟨ty_nd.1, ty_nd.2.1⟩ (nd_only w6 A (.bool true) (.slice pi NL ci) (.slice none 0 0) (.slice none 0 0))
              have HXA := Lib.hid (nd_set hR6.res (.bool true) (.slice pi NL ci) (.slice none 0 0) (.slice none 0 0))
              have HBX := Lib.hid (nd_below hR6.below hR6.hA (.bool true) (.slice pi NL ci) (.slice none 0 0) (.slice none 0 0))
              have hIX : IsNd ((((w6.setCell ⟨A, 0, none⟩ (.bool true)).setCell ⟨A, 1, none⟩ (.slice pi NL ci)).setCell ⟨A, 2, none⟩ (.slice none 0 0)).setCell ⟨A, 3, none⟩ (.slice none 0 0)) (.agg #[.bool true, .slice pi NL ci, .slice none 0 0, .slice none 0 0]) (Go.By.lfOf its) pi ci none 0 none 0 ∧ ItRow ((((w6.setCell ⟨A, 0, none⟩ (.bool true)).setCell ⟨A, 1, none⟩ (.slice pi NL ci)).setCell ⟨A, 2, none⟩ (.slice none 0 0)).setCell ⟨A, 3, none⟩ (.slice none 0 0)) w.heap.size (.slice pi (Go.By.lfOf its).its.length ci) (Go.By.lfOf its).its := by
                obtain ⟨p', c', he, hat⟩ := hXI.at_
                cases he
                exact ⟨⟨rfl, hat, RowAt.nil, RowAt.nil⟩, hXI⟩
              have HIX := Lib.hid hIX
              have n0 := cells_of hR6.nd 0; have n1 := cells_of hR6.nd 1; have n2 := cells_of hR6.nd 2; have n3 := cells_of hR6.nd 3
              simp only [List.getElem?_toArray, List.getElem?_cons_zero, List.getElem?_cons_succ] at n0 n1 n2 n3
              clear hR6 hI6 hb6 htn hXI hIX
              go_wp2
              refine bodyPost_ret (nd_ret rfl rfl HXA.out rfl) rfl ?_
              exact ⟨HBX.out, .inr ⟨_, _, _, _, _, _, _, _, HTN.out, rfl, HIX.out.1, HIX.out.2⟩⟩
  · have hk' : ¬ (N1 : Int) = 76 := by omega
    have hkd : decide (N1 = 76) = false := decide_eq_false hk
    have hbe : ((N1 : Int) == 76) = false := beq_eq_false_iff_ne.2 hk'
    have hk76 : ¬ N1 = 76 := hk
    have hnew : Below w3.heap.size w3 (w3.alloc (.cells #[.bool false, .slice none 0 0, .slice none 0 0, .slice none 0 0] 93)) := (Below.refl _ _).alloc (Nat.le_refl _) _
    have H0 : Hid (InRel w A G w3.heap.size C s0 (.int .i64 (0 : Nat)) (w3.alloc (.cells #[.bool false, .slice none 0 0, .slice none 0 0, .slice none 0 0] 93))) := by
      refine ⟨0, .slice none 0 0, .slice none 0 0, [], s0, Nat.zero_le _, rfl, rfl, ⟨⟨l3, b3, ?_, HS0.out⟩, heap_alloc_new w3 _, HB3.out.trans (hnew.mono HB3.out.size), HGW.out, HB3.out.size, ?_, by rw [HA.out]; exact Nat.le_refl _, ?_⟩, KyRow.nil _ _, KdRow.nil _ _, ?_⟩
      · obtain ⟨u, h1, h2⟩ := HR3.out
        exact ⟨u, (hnew.block _ (Array.getElem?_eq_some_iff.1 h1).1).trans h1, h2⟩
      · exact (hnew.block _ (Array.getElem?_eq_some_iff.1 HA3.out).1).trans HA3.out
      · have := (Array.getElem?_eq_some_iff.1 HA3.out).1; omega
      · cases s0 with
        | none => rfl
        | some r0 => exact pst_zero _ _ _
    obtain ⟨nb, hnb⟩ : ∃ x, x = w3.heap.size := ⟨_, rfl⟩
    rw [← hnb] at H0
    have HNB := Lib.hid hnb
    clear hnew hnb
    go_wp2
    rw [← HNB.out]
    go_loopw [8] (fun i W' => InRel w A G nb C s0 i W') (fun i _ => C - (intOf i).toNat)
    case atStart => exact H0.out
    case round =>
      clear H0
      obtain ⟨k, kv, dv, xs, s, hk, rfl, hlen, hR, hI, hD, hP⟩ := hrel
      obtain ⟨rv, hrc, hrb⟩ := hR.at_
      have g0 := cells_of hrc 0
      have g1 := cells_of hrc 1
      simp only [List.getElem?_toArray, List.getElem?_cons_zero, List.getElem?_cons_succ] at g0 g1
      obtain ⟨pi, ci, rfl, -⟩ := hI.at_
      obtain ⟨pd, cd, rfl, -⟩ := hD.at_
      cases s with
      | none =>
        have HTN : Hid (takeNd l = none) := by
          obtain ⟨t1, t2⟩ := take_two l
          cases s0 with
          | none => exact (t1 HSC.out.symm).1
          | some r0 =>
            unfold Hid
            rw [t2 r0 HSC.out.symm, HK.out, if_neg hk76, ← HC.out]
            split
            · exact body_in_no hP
            · rfl
        rw [show (none : Option (List Nat)).isNone = true from rfl] at g1
        have HXA := Lib.hid (nd_set hR.res (.bool false) (.slice none 0 0) (.slice none 0 0) (.slice none 0 0))
        have HBX := Lib.hid (nd_below hR.below hR.hA (.bool false) (.slice none 0 0) (.slice none 0 0) (.slice none 0 0))
        have a0 := cells_of hR.res 0; have a1 := cells_of hR.res 1; have a2 := cells_of hR.res 2; have a3 := cells_of hR.res 3
        have q10 := free_of hR.res 0; have q11 := free_of hR.res 1; have q12 := free_of hR.res 2; have q13 := free_of hR.res 3
        simp only [List.getElem?_toArray, List.getElem?_cons_zero, List.getElem?_cons_succ] at a0 a1 a2 a3
        clear hR hI hD hP hrc hrb hk hlen
        by_cases hlt : k < C
        · have hii : (k : Int) < C := by omega
          go_wp2
          refine bodyPost_ret (nd_ret rfl rfl HXA.out rfl) rfl ?_
          exact ⟨HBX.out, .inl ⟨HTN.out, rfl⟩⟩
        · have hii : ¬ (k : Int) < C := by omega
          go_wp2
          refine bodyPost_ret (nd_ret rfl rfl HXA.out rfl) rfl ?_
          exact ⟨HBX.out, .inl ⟨HTN.out, rfl⟩⟩
      | some r =>
        by_cases hlt : k < C
        · have hii : (k : Int) < C := by omega
          rw [show (some r : Option (List Nat)).isNone = false from rfl] at g1
          obtain ⟨r0, rfl⟩ : ∃ r0, s0 = some r0 := by
            cases s0 with
            | none => cases hP
            | some r0 => exact ⟨r0, rfl⟩
          have hP2 := pst_kd hP hlt
          have HT := Lib.hid hR.text
          have HRR := Lib.hid hR; have HI := Lib.hid hI; have HD := Lib.hid hD; have HLEN := Lib.hid hlen; have HP2 := Lib.hid hP2; have HLT := Lib.hid hlt; have HRC := Lib.hid hrc
          have HKC := Lib.hid hk
          clear hR hI hD hlen hP2 hP hlt hrc hrb hk
          go_wp2_with fail
          refine HT.out.mono ?_
          rintro e w5 ⟨v5, rfl, ht5, hR5, hO5⟩
          have hI5 := HI.out.onlyT HRC.out ⟨ty_rd.1, ty_rd.2.2.1⟩ hO5
          have hD5 := HD.out.onlyT HRC.out ty_rd.2.2.2.1 hO5
          have n0 := cells_of hR5.nd 0
          have n2 := cells_of hR5.nd 2
          simp only [List.getElem?_toArray, List.getElem?_cons_zero, List.getElem?_cons_succ] at n0 n2
          obtain ⟨p6, c6, w6, hrun6, hnd6, hR6, hI6, hD6⟩ := ky_push hR5 hI5 hD5 (by rw [List.length_map]; have := HLEN.out; have := HKC.out; omega) ht5
          obtain ⟨pa, ca, rfl, -⟩ := ht5.bytes.any
          have n2a : (w5.alloc (.cells #[.slice pa (rdText (some r)).1.length ca] 31)).cell? ⟨nb, 2, none⟩ = some (.slice pi (xs.map (·.1)).length ci) := (World.cell?_alloc_lt _ _ _ hR5.ltn).trans n2
          have m6 := cells_of hnd6 2
          have f6 := free_of hnd6 2
          simp only [List.getElem?_toArray, List.getElem?_cons_zero, List.getElem?_cons_succ] at m6
          have HRUN6 := Lib.hid hrun6
          obtain ⟨w8, hw8⟩ : ∃ x, x = w6.setCell ⟨nb, 2, none⟩ (.slice p6 ((xs.map (·.1)).length + 1) c6) := ⟨_, rfl⟩
          rw [← hw8] at hR6 hI6 hD6
          have HW8 := Lib.hid hw8
          have hbz : Below w8.heap.size w8 w8.drew := (Below.refl _ _).drew
          have hRd := hR6.new hbz
          have HNA := Lib.hid (hRd.num8)
          obtain ⟨rv8, hrc8, -⟩ := hRd.at_
          have HRC8 := Lib.hid hrc8; have HI8 := Lib.hid (hI6.below' hbz); have HD8 := Lib.hid (hD6.below' hbz)
          have o3 := cells_of hR6.nd 3
          simp only [List.getElem?_toArray, List.getElem?_cons_zero, List.getElem?_cons_succ] at o3
          have hRS : ∀ w9, RdN w A G nb w9 #[.bool false, .slice none 0 0, .slice p6 ((xs.map (·.1)).length + 1) c6, .slice pd (xs.map (·.2)).length cd] (rdTake 8 (rdText (some r)).2).2 → w9.cell? ⟨nb, 3, none⟩ = some (.slice pd (xs.map (·.2)).length cd) := fun w9 h => cells_of h.nd 3
          have HRS := Lib.hid hRS
          have e64 : IntKind.i64.wrap ((numOf (rdTake 8 (rdText (some r)).2).1 : Nat) : Int) = RowKit.wrap64 (numOf (rdTake 8 (rdText (some r)).2).1 : Nat) := wrap_is64 _
          have HRUN : Hid (∀ w9 w10, RdN w A G nb w9 #[.bool false, .slice none 0 0, .slice p6 ((xs.map (·.1)).length + 1) c6, .slice pd (xs.map (·.2)).length cd] (rdTake 8 (rdText (some r)).2).2 → Only G w8.drew w9 →
              RdN w A G nb w10 #[.bool false, .slice none 0 0, .slice p6 ((xs.map (·.1)).length + 1) c6, .slice pd (xs.map (·.2)).length cd] (rdTake 8 (rdTake 8 (rdText (some r)).2).2).2 → Only G w9 w10 →
              ∃ p' c' w', (Builtin.append_ #[79, 79] 79 #[.slice pd (xs.map (·.2)).length cd, .slice (some ⟨w10.heap.size, 0, none⟩) 1 1]).run Try.prog (w10.alloc (.cells #[.int .i64 (IntKind.i64.wrap ((numOf (rdTake 8 (rdText (some r)).2).1 : Nat) : Int)), .int .u64 (numOf (rdTake 8 (rdTake 8 (rdText (some r)).2).2).1 : Nat)] 39)) = .ok (.slice p' ((xs.map (·.2)).length + 1) c') w' ∧
                w10.cell? ⟨nb, 3, none⟩ = some (.slice pd (xs.map (·.2)).length cd) ∧ (w10.alloc (.cells #[.int .i64 (IntKind.i64.wrap ((numOf (rdTake 8 (rdText (some r)).2).1 : Nat) : Int)), .int .u64 (numOf (rdTake 8 (rdTake 8 (rdText (some r)).2).2).1 : Nat)] 39)).cell? ⟨nb, 3, none⟩ = some (.slice pd (xs.map (·.2)).length cd) ∧ w'.cell? ⟨nb, 3, none⟩ = some (.slice pd (xs.map (·.2)).length cd) ∧ w'.frozen? ⟨nb, 3, none⟩ = false ∧
                InRel w A G nb C (some r0) (.int .i64 (k + 1 : Nat)) (w'.setCell ⟨nb, 3, none⟩ (.slice p' ((xs.map (·.2)).length + 1) c'))) := by
            intro w9 w10 hR9 hO9 hR10 hO10
            rw [e64]
            have hI9 := HI8.out.onlyT HRC8.out ⟨ty_rd.1, ty_rd.2.2.1⟩ hO9
            have hD9 := HD8.out.onlyT HRC8.out ty_rd.2.2.2.1 hO9
            obtain ⟨rv9, hrc9, -⟩ := hR9.at_
            have hI10 := hI9.onlyT hrc9 ⟨ty_rd.1, ty_rd.2.2.1⟩ hO10
            have hD10 := hD9.onlyT hrc9 ty_rd.2.2.2.1 hO10
            have hsmall : ∀ (s : Option (List Nat)), (∀ m, s = some m → ∀ c ∈ m, c < 256) → numOf (rdTake 8 s).1 < 18446744073709551616 := by
              intro s hs
              have h1 : ∀ c ∈ (rdTake 8 s).1, c < 256 := by
                cases s with
                | none => intro c hc; cases hc
                | some m => exact rdTake_small (bad := false) (hs m rfl)
              exact Nat.lt_of_lt_of_le (numOf_lt _ h1) (Nat.le_trans (Nat.pow_le_pow_right (by omega) rdTake_short) (by decide))
            obtain ⟨p', c', w', hrun, hnd', hR7, hI7, hD7⟩ := kd_push (d := ⟨RowKit.wrap64 (numOf (rdTake 8 (rdText (some r)).2).1 : Nat), numOf (rdTake 8 (rdTake 8 (rdText (some r)).2).2).1⟩) hR10 hI10 hD10 (by rw [List.length_map]; have := HLEN.out; have := HKC.out; omega)
              ⟨by dsimp only; unfold wrap64; omega, hsmall _ (fun m hm => by
                obtain ⟨v9, _, hb9⟩ := hR9.at_
                exact (hb9 m hm).small)⟩
            have m1 := cells_of hR10.nd 3
            refine ⟨p', c', w', hrun, m1, (World.cell?_alloc_lt _ _ _ hR10.ltn).trans m1, cells_of hnd' 3, free_of hnd' 3,
              ⟨k + 1, _, _, xs ++ [(stKd (some r)).1], (stKd (some r)).2, HLT.out, rfl, by rw [List.length_append, HLEN.out]; rfl, hR7, ?_, ?_, HP2.out⟩⟩
            · rw [List.map_append]; exact hI7
            · rw [List.map_append]; exact hD7
          generalize (rdText (some r)).1.length = la at *
          generalize (xs.map (·.1)).length = NK at *
          generalize (xs.map (·.2)).length = ND at *
          clear e64 ht5 hR5 hO5 hI5 hD5 hnd6 hrun6 hR6 hI6 hD6 hw8 hbz hRd hrc8 hRS HT HRR HRC HI HD HP2 HRC8 HI8 HD8
          go_wp2_with (at_builtin; refine Lib.wpList_append_run _ rfl (.tmp 47) (.tmp 49) 78 78 rfl _ _ rfl rfl _ w6 HRUN6.out ?_)
          rw [← HW8.out]
          clear HW8 n0 n2 n2a m6 f6 HRUN6
          go_wp2_with fail
          go_region_law (first
            | (go_simp; go_at_call 71; with_reducible refine HNA.out.mono ?_; rintro e w9 ⟨rfl, hR9, hO9⟩; have HNB := Lib.hid (hR9.num8); have o9 := HRS.out _ hR9)
            | (go_simp; go_at_call 71; with_reducible refine HNB.out.mono ?_; rintro e w10 ⟨rfl, hR10, hO10⟩; obtain ⟨p7, c7, w7, hrun7, m1, m2, m3, m4, hend⟩ := HRUN.out _ _ hR9 hO9 hR10 hO10; have HEND := Lib.hid hend)
            | (refine step_append_run rfl (.tmp 53) (.tmp 60) 79 79 rfl (.slice pd ND cd) (.slice (some ⟨w10.heap.size, 0, none⟩) 1 1) rfl rfl (.slice p7 (ND + 1) c7) w7 hrun7 ?_; clear hrun7))
          all_goals
            go_wp2
            go_roundw
            case rel => exact HEND.out
            case measure => simp [intOf]; have := HLT.out; omega
        · have hx1 : True := trivial
          have hii : ¬ (k : Int) < C := by omega
          obtain rfl : k = C := by omega
          rw [show (some r : Option (List Nat)).isNone = false from rfl] at g1
          obtain ⟨r0, rfl⟩ : ∃ r0, s0 = some r0 := by
            cases s0 with
            | none => cases hP
            | some r0 => exact ⟨r0, rfl⟩
          have htk : takeNd l = if N1 = 78 then (if r = [] ∧ mayNd (Go.By.inOf xs) = true then some (Go.By.inOf xs) else none) else none := by
            rw [(take_two l).2 r0 HSC.out.symm, HK.out, if_neg hk76, ← HC.out, body_in hP]
          have hrv := hrb r rfl
          obtain ⟨pr, cr, rfl, -⟩ := hrv.any
          have a0 := cells_of hR.res 0; have a1 := cells_of hR.res 1; have a2 := cells_of hR.res 2; have a3 := cells_of hR.res 3
          have q10 := free_of hR.res 0; have q11 := free_of hR.res 1; have q12 := free_of hR.res 2; have q13 := free_of hR.res 3
          simp only [List.getElem?_toArray, List.getElem?_cons_zero, List.getElem?_cons_succ] at a0 a1 a2 a3
          by_cases hr0 : 0 < r.length
          · have hri : (0 : Int) < r.length := by omega
            have HTN : Hid (takeNd l = none) := by
              unfold Hid
              have e1 : ¬ (r = [] ∧ mayNd (Go.By.inOf xs) = true) := fun e => by rw [e.1] at hr0; exact absurd hr0 (Nat.lt_irrefl 0)
              rw [htk, if_neg e1]
              split <;> rfl
            have HXA := Lib.hid (nd_set hR.res (.bool false) (.slice none 0 0) (.slice none 0 0) (.slice none 0 0))
            have HBX := Lib.hid (nd_below hR.below hR.hA (.bool false) (.slice none 0 0) (.slice none 0 0) (.slice none 0 0))
            clear hR hI hD hP hrc hrb hk hlen htk hrv hr0
            generalize r.length = RL at *
            go_wp2
            refine bodyPost_ret (nd_ret rfl rfl HXA.out rfl) rfl ?_
            exact ⟨HBX.out, .inl ⟨HTN.out, rfl⟩⟩
          · obtain rfl : r = [] := List.eq_nil_of_length_eq_zero (by omega)
            by_cases h78 : N1 = 78
            · subst h78
              rw [if_pos rfl] at htk
              have hIS : IsNd wr (.agg #[.bool false, .slice none 0 0, .slice pi (xs.map (·.1)).length ci, .slice pd (xs.map (·.2)).length cd]) (Go.By.inOf xs) none 0 pi ci pd cd := by
                obtain ⟨p', c', he, hat⟩ := hI.at_
                obtain ⟨p2', c2', he2, hat2⟩ := hD.at_
                cases he
                cases he2
                exact ⟨rfl, RowAt.nil, hat, hat2⟩
              have HMAY := Lib.hid (refMay_any hIS (fun h => by cases h))
              have n0 := cells_of hR.nd 0; have n1 := cells_of hR.nd 1; have n2 := cells_of hR.nd 2; have n3 := cells_of hR.nd 3
              simp only [List.getElem?_toArray, List.getElem?_cons_zero, List.getElem?_cons_succ] at n0 n1 n2 n3
              have HRR := Lib.hid hR; have HI := Lib.hid hI; have HD := Lib.hid hD; have HTK := Lib.hid htk
              clear hR hI hD hP hrc hrb hk hlen htk hrv hr0 hIS a0 a1 a2 a3 q10 q11 q12 q13
              generalize (xs.map (·.1)).length = NK at *
              generalize (xs.map (·.2)).length = ND at *
              go_wp2_with fail
              refine HMAY.out.mono ?_
              rintro e w6 ⟨rfl, hb6⟩
              have hR6 := HRR.out.new hb6
              have hI6 := HI.out.below' hb6
              have hD6 := HD.out.below' hb6
              have a0 := cells_of hR6.res 0; have a1 := cells_of hR6.res 1; have a2 := cells_of hR6.res 2; have a3 := cells_of hR6.res 3
              have q10 := free_of hR6.res 0; have q11 := free_of hR6.res 1; have q12 := free_of hR6.res 2; have q13 := free_of hR6.res 3
              simp only [List.getElem?_toArray, List.getElem?_cons_zero, List.getElem?_cons_succ] at a0 a1 a2 a3
              cases hm : mayNd (Go.By.inOf xs) with
              | false =>
                have HTN : Hid (takeNd l = none) := by
                  unfold Hid
                  rw [HTK.out]
                  simp [hm]
                have HXA := Lib.hid (nd_set hR6.res (.bool false) (.slice none 0 0) (.slice none 0 0) (.slice none 0 0))
                have HBX := Lib.hid (nd_below hR6.below hR6.hA (.bool false) (.slice none 0 0) (.slice none 0 0) (.slice none 0 0))
                clear hR6 hI6 hD6 hb6
                go_wp2
                refine bodyPost_ret (nd_ret rfl rfl HXA.out rfl) rfl ?_
                exact ⟨HBX.out, .inl ⟨HTN.out, rfl⟩⟩
              | true =>
                have htn : takeNd l = some (Go.By.inOf xs) := by rw [HTK.out]; simp [hm]
                have HTN := Lib.hid htn
                have hXI := hI6.onlyT hR6.res ⟨ty_nd.1, ty_nd.2.2.1⟩ (nd_only w6 A (.bool false) (.slice none 0 0) (.slice pi NK ci) (.slice pd ND cd))
                have hXD := hD6.onlyT hR6.res ty_nd.2.2.2 (nd_only w6 A (.bool false) (.slice none 0 0) (.slice pi NK ci) (.slice pd ND cd))
                have HXA := Lib.hid (nd_set hR6.res (.bool false) (.slice none 0 0) (.slice pi NK ci) (.slice pd ND cd))
                have HBX := Lib.hid (nd_below hR6.below hR6.hA (.bool false) (.slice none 0 0) (.slice pi NK ci) (.slice pd ND cd))
                have hIX : IsNd ((((w6.setCell ⟨A, 0, none⟩ (.bool false)).setCell ⟨A, 1, none⟩ (.slice none 0 0)).setCell ⟨A, 2, none⟩ (.slice pi NK ci)).setCell ⟨A, 3, none⟩ (.slice pd ND cd)) (.agg #[.bool false, .slice none 0 0, .slice pi NK ci, .slice pd ND cd]) (Go.By.inOf xs) none 0 pi ci pd cd ∧ ItRow ((((w6.setCell ⟨A, 0, none⟩ (.bool false)).setCell ⟨A, 1, none⟩ (.slice none 0 0)).setCell ⟨A, 2, none⟩ (.slice pi NK ci)).setCell ⟨A, 3, none⟩ (.slice pd ND cd)) w.heap.size (.slice none (Go.By.inOf xs).its.length 0) (Go.By.inOf xs).its := by
                  obtain ⟨p', c', he, hat⟩ := hXI.at_
                  obtain ⟨p2', c2', he2, hat2⟩ := hXD.at_
                  cases he
                  cases he2
                  exact ⟨⟨rfl, RowAt.nil, hat, hat2⟩, ItRow.nil _ _⟩
                have HIX := Lib.hid hIX
                have n0 := cells_of hR6.nd 0; have n1 := cells_of hR6.nd 1; have n2 := cells_of hR6.nd 2; have n3 := cells_of hR6.nd 3
                simp only [List.getElem?_toArray, List.getElem?_cons_zero, List.getElem?_cons_succ] at n0 n1 n2 n3
                clear hR6 hI6 hD6 hb6 htn hXI hXD hIX
                go_wp2
                refine bodyPost_ret (nd_ret rfl rfl HXA.out rfl) rfl ?_
                exact ⟨HBX.out, .inr ⟨_, _, _, _, _, _, _, _, HTN.out, rfl, HIX.out.1, HIX.out.2⟩⟩
            · have h78i : ¬ (N1 : Int) = 78 := by omega
              have hb78 : ((N1 : Int) == 78) = false := beq_eq_false_iff_ne.2 h78i
              have HTN : Hid (takeNd l = none) := by unfold Hid; rw [htk, if_neg h78]
              have HXA := Lib.hid (nd_set hR.res (.bool false) (.slice none 0 0) (.slice none 0 0) (.slice none 0 0))
              have HBX := Lib.hid (nd_below hR.below hR.hA (.bool false) (.slice none 0 0) (.slice none 0 0) (.slice none 0 0))
              clear hR hI hD hP hrc hrb hk hlen htk hrv hr0
              go_wp2
              refine bodyPost_ret (nd_ret rfl rfl HXA.out rfl) rfl ?_
              exact ⟨HBX.out, .inl ⟨HTN.out, rfl⟩⟩
end Go.Proofs.Ytajfcnaifegonaa.Sl.Nd
