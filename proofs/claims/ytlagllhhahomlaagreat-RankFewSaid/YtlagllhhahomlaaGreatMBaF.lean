/- Trees in a program: a file of which one reads; what is read. -/
import Derived.Test.YtlagllhhahomlaaGreatMBaC
import Derived.Test.YtlagllhhahomlaaGreatMNdV
import Derived.Test.YtlagllhhahomlaaGreatMFlG
import Derived.Test.YtlagllhhahomlaaGreatMFlM
import Derived.Test.YtlagllhhahomlaaGreatMLfF
import Derived.Deep.RegionLaw
namespace Go.By
open Go Go.RowKit
theorem pc_take' {l : List Nat} {i n m : Nat} (h : i + n ≤ m) : pc (l.take m) i n = pc l i n := by
  unfold pc
  rw [List.drop_take, List.take_take, Nat.min_eq_left (by omega)]
theorem atB_takeT {l : List Nat} {i m : Nat} (h : i < m) : atB (l.take m) i = atB l i := by
  unfold atB
  rw [List.getD_eq_getElem?_getD, List.getD_eq_getElem?_getD, List.getElem?_take_of_lt h]
theorem bodyLen_take (l : List Nat) {m : Nat} (h : 4 ≤ m) : bodyLen (l.take m) = bodyLen l := by
  unfold bodyLen
  rw [pc_take' (by omega)]
theorem isRec_take (l : List Nat) : isRec (l.take 4105) = isRec l := by
  have e0 := bodyLen_take l (m := 4105) (by decide)
  unfold isRec partOk
  rw [e0, List.length_take]
  by_cases h : bodyLen l ≤ 4096
  · have e1 : pc (l.take 4105) (5 + bodyLen l) 4 = pc l (5 + bodyLen l) 4 := pc_take' (by omega)
    have e2 : (l.take 4105).take (5 + bodyLen l) = l.take (5 + bodyLen l) := by rw [List.take_take, Nat.min_eq_left (by omega)]
    rw [e1, e2]
    have d1 : decide (4 ≤ min 4105 l.length) = decide (4 ≤ l.length) := by rw [decide_eq_decide]; omega
    have d2 : decide (5 ≤ min 4105 l.length) = decide (5 ≤ l.length) := by rw [decide_eq_decide]; omega
    have d3 : decide (5 + bodyLen l ≤ min 4105 l.length) = decide (5 + bodyLen l ≤ l.length) := by rw [decide_eq_decide]; omega
    have d4 : decide (9 + bodyLen l ≤ min 4105 l.length) = decide (9 + bodyLen l ≤ l.length) := by rw [decide_eq_decide]; omega
    rw [d1, d2, d3, d4]
  · rw [decide_eq_false h]
    simp
def rdAt (K : List Nat) (off : Int) : Nat × List Nat × Nat :=
  if off < 256 ∨ (K.length : Int) ≤ off then (0, [], 2) else if isRec (K.drop off.toNat) = true then (atB (K.drop off.toNat) 4, pc (K.drop off.toNat) 5 (bodyLen (K.drop off.toNat)), 0) else (0, [], 2)
def nodeBy (x : Nat × List Nat × Nat) (ct : Nat) : Option Nd :=
  if x.2.2 = 0 ∧ x.1 = 2 then
    match takeNd x.2.1 with
    | none => none
    | some n => if cntN n = ct then some n else none
  else none
theorem nodeIn_rd (K : List Nat) (off : Int) (ct : Nat) : nodeIn K off ct = nodeBy (rdAt K off) ct := by
  unfold nodeIn nodeBy rdAt nodeOf
  by_cases h1 : off < 256 ∨ (K.length : Int) ≤ off
  · rw [if_pos h1, if_pos h1, if_neg (by simp)]
  · rw [if_neg h1, if_neg h1]
    by_cases h2 : isRec (K.drop off.toNat) = true
    · rw [if_pos h2]
      simp only [h2, true_and]
      rfl
    · rw [if_neg h2, if_neg (by simp [h2]), if_neg (by simp)]
end Go.By
namespace Go.Proofs.YtlagllhhahomlaaGreat.Sl.Nd
open Go Go.RowKit Go.By
structure FS where
  s : ByteArray
  R : Int
  kp : List (ByteArray × Nat)
  ld : List NameOp
  K : List Nat
  K0 : List Nat
  os : List ByteOp
def FS.sk (F : FS) (o : Nat) : Sk := oneF F.s F.R o 0 F.kp F.ld F.K F.K0 F.os
structure FS.Ok (F : FS) : Prop where
  name : mayName F.s = true
  size : F.s.size ≤ maxLen
  room : 0 ≤ F.R ∧ F.R ≤ 1099511627776
  len : F.K.length ≤ 1048576
  ld : F.ld.length < 1000000
  os : F.os.length < 1000000
theorem FS.fine {F : FS} (h : F.Ok) {o : Nat} (ho : o < 4611686018427387904) : (F.sk o).Fine where
  ops := ho
  left := by show 0 < _; omega
  made := by show 1 < _; omega
  laid := h.ld
  few := fun n => by
    show (if n = 1 then (⟨F.K, F.K0, F.os⟩ : FileA) else noFile).laid.length < _
    split
    · exact h.os
    · show 0 < _; omega
  short := fun n => by
    have := h.len
    show (if n = 1 then (⟨F.K, F.K0, F.os⟩ : FileA) else noFile).seen.length ≤ _
    split
    · show F.K.length ≤ _; omega
    · show 0 ≤ _; omega
  room := by have := h.room; show 0 ≤ F.R ∧ F.R ≤ _; omega
  used := by have := h.len; show 0 ≤ (F.K.length : Int) ∧ (F.K.length : Int) ≤ _; omega
structure Tf (F : FS) (W : World) (g a o : Nat) (own : Own) (w : World) : Prop where
  disk : Dsk W a (F.sk o) own w
  file : Fil W g a F.s F.K.length own w
theorem Tf.stay {F : FS} {W w w' : World} {g a o : Nat} {own : Own} (h : Tf F W g a o own w) (hb : Below w.heap.size w w') : Tf F W g a o own w' := ⟨h.disk.stay hb, h.file.stay hb⟩
theorem Tf.small {F : FS} {W w : World} {g a o : Nat} {own : Own} (h : Tf F W g a o own w) : ∀ c ∈ F.K, c < 256 := h.disk.small (s := F.s) (n := 1) (get_one F.s 1)
theorem fs_piece {F : FS} (h : F.Ok) (o : Nat) {off : Nat} (ho : off ≤ F.K.length) : (F.sk o).piece F.s off = ((F.K.drop off).take 4105, 0) := oneF_piece h.name (by decide) ho (by have := h.len; omega)
theorem readOut_fs {F : FS} (h : F.Ok) (o : Nat) (off : Int) : (readOut (F.sk o) F.s F.K.length off).1 = (rdAt F.K off).1 ∧ (readOut (F.sk o) F.s F.K.length off).2.1 = (rdAt F.K off).2.1 ∧ (readOut (F.sk o) F.s F.K.length off).2.2 = ((rdAt F.K off).2.2 : Nat) := by
  have he : endAt (F.sk o) F.s F.K.length = F.K.length := oneF_end rfl
  unfold readOut rdAt
  rw [he]
  by_cases h1 : off < 256 ∨ (F.K.length : Int) ≤ off
  · rw [if_pos h1, if_pos h1]; exact ⟨rfl, rfl, rfl⟩
  · rw [if_neg h1, if_neg h1]
    obtain ⟨n, rfl⟩ : ∃ n : Nat, off = n := ⟨off.toNat, by omega⟩
    rw [fs_piece h o (by omega)]
    dsimp only
    rw [if_neg (by simp), Int.toNat_natCast]
    unfold tkKind tkBody tkErr
    rw [isRec_take]
    cases hr : isRec (F.K.drop n) with
    | false => exact ⟨rfl, rfl, rfl⟩
    | true =>
      rw [bodyLen_take _ (by decide), atB_takeT (by decide)]
      have hbl : bodyLen (F.K.drop n) ≤ 4096 := by
        unfold isRec at hr
        simp only [Bool.and_eq_true] at hr
        have := hr.1.1.1
        unfold partOk at this
        simp only [Bool.and_eq_true, decide_eq_true_eq] at this
        exact this.2
      rw [pc_take' (by omega)]
      exact ⟨rfl, rfl, rfl⟩
def RdFile (F : FS) (W : World) (g a o : Nat) (own : Own) (w : World) (off : Int) (z : Ending) (w' : World) : Prop :=
  ∃ p c o', o ≤ o' ∧ o' ≤ o + 1 ∧ z = .returned (.tuple #[.int .u8 ((rdAt F.K off).1 : Nat), .slice p (rdAt F.K off).2.1.length c, .int .i64 ((rdAt F.K off).2.2 : Nat)]) ∧ Bytes w' (.slice p (rdAt F.K off).2.1.length c) (rdAt F.K off).2.1 ∧ Steps own own w w' ∧ Tf F W g a o' own w'
theorem fileRead_tf {F : FS} {W w : World} {g a o : Nat} {own : Own} (h : Tf F W g a o own w) (hF : F.Ok) (ho : o < 4611686018427387904) (off : Int) :
    Calls Tryz.prog 106 #[.pointer (some ⟨g, 0, none⟩), .int .i64 off] w (RdFile F W g a o own w off) := by
  have he : endAt (F.sk o) F.s F.K.length = F.K.length := oneF_end rfl
  have hl := hF.len
  obtain ⟨e1, e2, e3⟩ := readOut_fs hF o off
  refine (fileRead_any h.disk h.file (F.fine hF ho) hF.size off (by rw [he]; omega)).mono ?_
  rintro e w' ⟨p, c, rfl, hb, _, hst, hd, hf⟩
  rw [e1, e3]
  rw [e2] at hb ⊢
  unfold readS at hd
  split at hd
  · exact ⟨p, c, o, Nat.le_refl _, by omega, rfl, hb, hst, hd, hf⟩
  · exact ⟨p, c, o + 1, by omega, Nat.le_refl _, rfl, hb, hst, hd, hf⟩
end Go.Proofs.YtlagllhhahomlaaGreat.Sl.Nd
/- Trees in a program: the law's file. -/
namespace Go.Proofs.YtlagllhhahomlaaGreat.Sl.Nd
open Go Go.RowKit Go.By
def fsT (R : Int) (C : List Nat) (os : List ByteOp) : FS := ⟨tT, R, [], [.create tT 1], K3 zero128 zero128 C, [], os⟩
theorem fsT_len (R : Int) (C : List Nat) (os : List ByteOp) : (fsT R C os).K.length = 256 + C.length := K3_length zero128_length zero128_length
theorem fsT_ok {R : Int} {C : List Nat} {os : List ByteOp} (hR : 0 ≤ R ∧ R ≤ 1099511627776) (hC : C.length ≤ 1048000) (ho : os.length < 1000000) : (fsT R C os).Ok where
  name := tT_may
  size := by show tT.size ≤ maxLen; decide +kernel
  room := hR
  len := by rw [fsT_len]; omega
  ld := by show 1 < _; omega
  os := ho
theorem made_tf {R : Int} {W w : World} {g a : Nat} {own : Own} (hd : Dsk W a (oneF tT R 2 0 [] [.create tT 1] noughts256 [] [.cut 256]) own w) (hf : Fil W g a tT 256 own w) : Tf (fsT R [] [.cut 256]) W g a 2 own w := by
  rw [noughts_K3] at hd
  refine ⟨hd, ?_⟩
  rw [fsT_len]
  exact hf
theorem app_tf {R : Int} {C : List Nat} {os : List ByteOp} {W w : World} {g a o : Nat} {own : Own} (h : Tf (fsT R C os) W g a o own w) (hR : ((256 + C.length + 4105 : Nat) : Int) ≤ R ∧ R ≤ 1099511627776) (h16 : 256 + C.length ≤ 16777216) (ho : o < 1000000 ∧ os.length < 1000000) {k : Nat} (hk : k < 256) {bv : Value} {b : List Nat} (hb : Bytes w bv b) (hbl : b.length ≤ 4096) :
    Calls Tryz.prog 13 #[.pointer (some ⟨g, 0, none⟩), .int .u8 k, bv] w fun e w' => e = .returned (.tuple #[.int .i64 (256 + C.length : Nat), .int .i64 0]) ∧
      ∃ own', Moves g own own' w w' ∧ Tf (fsT R (C ++ recOf k b) (os ++ [.write (256 + C.length) (recOf k b)])) W g a (o + 1) own' w' := by
  have hf := h.file
  rw [fsT_len] at hf
  refine (one_append (A := zero128) (B := zero128) h.disk hf tT_may (by show tT.size ≤ maxLen; decide +kernel) (by omega) zero128_length zero128_length hR h16 ⟨ho.1, by omega, by show 1 < _; omega, ho.2⟩ hk hb hbl).mono ?_
  rintro e w' ⟨rfl, own', hm, hd, hf'⟩
  refine ⟨rfl, own', hm, hd, ?_⟩
  rw [fsT_len]
  exact hf'
end Go.Proofs.YtlagllhhahomlaaGreat.Sl.Nd
/- Trees in a program: a node is read. -/
namespace Go.By
open Go Go.RowKit
theorem rdAt_err (K : List Nat) (off : Int) : (rdAt K off).2.2 = 0 ∨ (rdAt K off).2.2 = 2 := by
  unfold rdAt
  split
  · exact .inr rfl
  · split
    · exact .inl rfl
    · exact .inr rfl
theorem rdAt_kind {K : List Nat} (hK : ∀ c ∈ K, c < 256) (off : Int) : (rdAt K off).1 < 256 := by
  unfold rdAt
  split
  · decide
  · split
    · show atB _ 4 < 256
      unfold atB
      rw [List.getD_eq_getElem?_getD]
      cases h : (K.drop off.toNat)[4]? with
      | none => decide
      | some c => exact hK c (List.mem_of_mem_drop (List.mem_of_getElem? h))
    · decide
end Go.By
namespace Go.Proofs.YtlagllhhahomlaaGreat.Sl.Nd
open Go Go.RowKit Go.By
theorem takeNd_may {l : List Nat} {n : Nd} (h : takeNd l = some n) : mayNd n = true := by
  have told : ∀ {a : Nd} {s : List Nat}, ndTold a s = some n → mayNd n = true := fun {a s} h => by
    cases s with
    | nil =>
      have h' : (if mayNd a = true then some a else none) = some n := h
      split at h'
      · cases h'; assumption
      · cases h'
    | cons _ _ => cases h
  match l, h with
  | [], h => cases h
  | [_], h => cases h
  | k :: c :: r, ht =>
    unfold takeNd at ht
    dsimp only at ht
    split at ht
    · unfold ndBody at ht
      rw [if_pos rfl] at ht
      cases hp : pMany pIt c r with
      | none => rw [hp] at ht; cases ht
      | some x => rw [hp] at ht; exact told ht
    · split at ht
      · unfold ndBody at ht
        rw [if_neg (by decide)] at ht
        cases hp : pMany pKd c r with
        | none => rw [hp] at ht; cases ht
        | some x => rw [hp] at ht; exact told ht
      · cases ht
theorem cnt_cntN (n : Nd) : cnt n = cntN n := by
  have : ∀ l : List NKd, sumCt l = sumK l := by
    intro l
    induction l with
    | nil => rfl
    | cons d r ih => rw [sumCt, sumK, ih]
  unfold cnt cntN
  rw [this]
theorem sum_may {n : Nd} (hm : mayNd n = true) : sumCt n.kids ≤ 8796093022208 := by
  have h : ∀ (l : List NKd), (∀ d ∈ l, mayKd d = true) → sumCt l ≤ l.length * 1099511627776 := by
    intro l
    induction l with
    | nil => intro _; simp [sumCt]
    | cons d r ih =>
      intro h
      have := ih (fun x hx => h x (List.mem_cons_of_mem _ hx))
      have h2 := ((mayKd_iff d).1 (h d List.mem_cons_self)).2.2
      rw [sumCt, List.length_cons]; omega
  cases hl : n.leaf with
  | true => rw [(may_lf hl hm).2.2.2.2]; simp [sumCt]
  | false =>
    obtain ⟨h1, _, _, _, h5, _⟩ := may_in hl hm
    have := h n.kids h5
    omega
theorem steps_set_new {own own' : Own} {w w' : World} (h : Steps own own' w w') {b : Nat} (hb : w.heap.size ≤ b) (i : Nat) (v : Value) : Steps own own' w (w'.setCell ⟨b, i, none⟩ v) :=
  ⟨h.os, h.tape, h.output, by have := h.size; simpa [World.setCell] using this, fun k hk ho => (Below.heap_setCell _ _ _ _ (by show k ≠ b; omega)).trans (h.block k hk ho), h.same⟩
theorem Tf.set {F : FS} {W w : World} {g a o : Nat} {own : Own} (h : Tf F W g a o own w) {b : Nat} (hn : own b = none) (hf : W.heap.size ≤ b) (hne : g ≠ b) (i : Nat) (v : Value) : Tf F W g a o own (w.setCell ⟨b, i, none⟩ v) :=
  ⟨h.disk.set hn hf i v, h.file.same (Below.heap_setCell _ _ _ _ hne)⟩
theorem rd_set {F : FS} {W w wz : World} {g a o o' b : Nat} {own : Own} (h0 : Tf F W g a o own w) (hS : Steps own own w wz) (hT : Tf F W g a o' own wz) (hb : w.heap.size ≤ b) (x0 x1 x2 x3 : Value) :
    Steps own own w ((((wz.setCell ⟨b, 0, none⟩ x0).setCell ⟨b, 1, none⟩ x1).setCell ⟨b, 2, none⟩ x2).setCell ⟨b, 3, none⟩ x3) ∧ Tf F W g a o' own ((((wz.setCell ⟨b, 0, none⟩ x0).setCell ⟨b, 1, none⟩ x1).setCell ⟨b, 2, none⟩ x2).setCell ⟨b, 3, none⟩ x3) := by
  have hn := h0.disk.new_none hb
  have hf : W.heap.size ≤ b := Nat.le_trans h0.disk.below.size hb
  have hne : g ≠ b := by have := h0.file.lt; omega
  exact ⟨steps_set_new (steps_set_new (steps_set_new (steps_set_new hS hb 0 x0) hb 1 x1) hb 2 x2) hb 3 x3, (((hT.set hn hf hne 0 x0).set hn hf hne 1 x1).set hn hf hne 2 x2).set hn hf hne 3 x3⟩
def KeepNew (own : Own) (w w' W' : World) : Prop := ∀ k, w.heap.size ≤ k → k < w'.heap.size → own k = none → W'.heap[k]? = w'.heap[k]?
theorem KeepNew.steps {own : Own} {w w' W' : World} (h : Steps own own w' W') : KeepNew own w w' W' := fun k _ hk ho => h.block k hk (.inl ho)
def RdNode (F : FS) (W : World) (g a o : Nat) (own : Own) (w : World) (r : Option Nd) (z : Ending) (w' : World) : Prop :=
  ∃ o', o ≤ o' ∧ o' ≤ o + 1 ∧ Steps own own w w' ∧ Tf F W g a o' own w' ∧ ((r = none ∧ z = .returned (.tuple #[.agg #[.bool false, .slice none 0 0, .slice none 0 0, .slice none 0 0], .int .i64 2])) ∨
    ∃ n pi ci pk ck pd cd, r = some n ∧ z = .returned (.tuple #[.agg #[.bool n.leaf, .slice pi n.its.length ci, .slice pk n.ks.length ck, .slice pd n.kids.length cd], .int .i64 0]) ∧ (∀ k, (Value.slice pk n.ks.length ck).ownBlock = some k ∨ (Value.slice pi n.its.length ci).ownBlock = some k ∨ (Value.slice pd n.kids.length cd).ownBlock = some k → own k = none ∧ w.heap.size ≤ k) ∧ ∀ W' : World, KeepNew own w w' W' → IsNd W' (.agg #[.bool n.leaf, .slice pi n.its.length ci, .slice pk n.ks.length ck, .slice pd n.kids.length cd]) n pi ci pk ck pd cd)
theorem rd_ret {tmps : Array Value} {w : World} {A : Nat} {cs : Array Value} {x : Value} (hp : tmps.getD 6 undef = .pointer (some ⟨A, 0, none⟩)) (hx : tmps.getD 7 undef = x) (hg : w.heap[A]? = some (.cells cs 38 (0, 0))) (hc : cs.size = 4) :
    (results Tryz.f78 tmps).run Tryz.prog w = .ok (.tuple #[.agg cs, x]) w := by
  have hi : (Tryz.prog.info? 38).map (·.size) = some cs.size := by rw [hc]; kernel_rfl
  have hq : (Tryz.prog.underlying 38).map (fun d => match d with | .struct _ | .array _ _ => true | _ => false) = some true := by kernel_rfl
  obtain ⟨d, hu, hd⟩ := Option.map_eq_some_iff.1 hq
  rw [results_cell_tmp (p := 6) (u := 7) (ty := 38) (by kernel_rfl), hp, hx]
  have := run_loadVar_row (P := Tryz.prog) w A 38 38 cs (0, 0) d hg hu (by cases d <;> simp_all) hi
  simp [asAddr, this, Result.andThen]
set_option maxRecDepth 100000 in
set_option maxHeartbeats 4000000 in
theorem treeRead_any {F : FS} {W w : World} {g a o : Nat} {own : Own} (h : Tf F W g a o own w) (hF : F.Ok) (ho : o < 4611686018427387904) (off : Int) (ct deep : Nat) (hd : deep < 1000) (va vb : Value) :
    Calls Tryz.prog 78 #[.agg #[.int .i64 (deep : Nat), va, vb], .pointer (some ⟨g, 0, none⟩), .agg #[.int .i64 off, .int .u64 (ct : Nat)]] w (RdNode F W g a o own w (if 22 < deep then none else nodeIn F.K off ct)) := by
  obtain ⟨X, hX⟩ : ∃ X, X = (if 22 < deep then none else nodeIn F.K off ct) := ⟨_, rfl⟩
  rw [← hX]
  obtain ⟨W1, hW1⟩ : ∃ W1, W1 = ((w.alloc (.cells #[.int .i64 (deep : Nat), va, vb] 100)).alloc (.cells #[.int .i64 off, .int .u64 (ct : Nat)] 25)).alloc (.cells #[.bool false, .slice none 0 0, .slice none 0 0, .slice none 0 0] 38) := ⟨_, rfl⟩
  have hWs : W1 = allocs w [.cells #[.int .i64 (deep : Nat), va, vb] 100, .cells #[.int .i64 off, .int .u64 (ct : Nat)] 25, .cells #[.bool false, .slice none 0 0, .slice none 0 0, .slice none 0 0] 38] := hW1
  have g0 : W1.heap[w.heap.size + 1]? = some (.cells #[.int .i64 off, .int .u64 (ct : Nat)] 25 (0, 0)) := by rw [hWs]; exact allocs_at (i := 1) rfl
  have gp : W1.heap[w.heap.size]? = some (.cells #[.int .i64 (deep : Nat), va, vb] 100 (0, 0)) := by rw [hWs]; exact allocs_at (i := 0) rfl
  have g1 : AnsAt W1 (w.heap.size + 2) := by rw [hWs]; exact allocs_at (i := 2) rfl
  have hb1 : Below w.heap.size w W1 := by rw [hWs]; exact allocs_below _ _
  have hz1 : W1.heap.size = w.heap.size + 3 := by rw [hW1]; simp
  have hs1 : Steps own own w W1 := Steps.of_below hb1
  have r0 := cells_of g0 0
  have k0 := cells_of gp 0
  simp only [List.getElem?_toArray, List.getElem?_cons_zero] at r0 k0
  have HT1 := Lib.hid (h.stay hb1)
  have HRD := Lib.hid (fileRead_tf (h.stay hb1) hF ho off)
  have HD := Lib.hid h.disk
  have HS1 := Lib.hid hs1; have HG0 := Lib.hid g0; have HG1 := Lib.hid g1; have HW1 := Lib.hid hW1; have HZ1 := Lib.hid hz1; have HXX := Lib.hid hX
  have HSM := Lib.hid h.small; have HH0 := Lib.hid h
  by_cases hdeep : 22 < deep
  · have hd' : (22 : Int) < (deep : Int) := by omega
    have a0 := cells_of g1 0; have a1 := cells_of g1 1; have a2 := cells_of g1 2; have a3 := cells_of g1 3
    have q0 := free_of g1 0; have q1 := free_of g1 1; have q2 := free_of g1 2; have q3 := free_of g1 3
    have HF : Hid (RdNode F W g a o own w X (.returned (.tuple #[.agg #[.bool false, .slice none 0 0, .slice none 0 0, .slice none 0 0], .int .i64 2])) W1) := ⟨o, Nat.le_refl _, by omega, HS1.out, HT1.out, .inl ⟨by rw [HXX.out, if_pos hdeep], rfl⟩⟩
    clear h hF ho hX hW1 hWs g0 g1 gp hb1 hz1 hs1 hdeep
    go_enter Tryz.func78, Tryz.ntmps78
    go_wp2
    rw [← HW1.out]
    exact bodyPost_ret (rd_ret rfl rfl HG1.out rfl) rfl HF.out
  · have hd' : ¬ (22 : Int) < (deep : Int) := by omega
    have HX2 : Hid (X = nodeBy (rdAt F.K off) ct) := by unfold Hid; rw [HXX.out, if_neg hdeep, nodeIn_rd]
    clear h hF ho hX hW1 hWs g0 g1 gp hb1 hz1 hs1 hdeep
    have herr := rdAt_err F.K off
    have hkd := rdAt_kind HSM.out off
    obtain ⟨R, hR⟩ : ∃ R, R = rdAt F.K off := ⟨_, rfl⟩
    unfold RdFile at HRD
    rw [← hR] at HX2 herr hkd HRD
    clear hR
    obtain ⟨KD, BD, ER⟩ := R
    dsimp only at herr hkd HRD
    go_enter Tryz.func78, Tryz.ntmps78
    go_wp2_with fail
    rw [← HW1.out]
    refine HRD.out.mono ?_
    rintro e w2 ⟨p, c, o', ho1, ho2, rfl, hby, hst, htf⟩
    have HO : Hid (o ≤ o' ∧ o' ≤ o + 1) := ⟨ho1, ho2⟩
    have hkeep : ∀ k, w.heap.size ≤ k → k < w.heap.size + 3 → w2.heap[k]? = W1.heap[k]? := fun k hk hk2 => hst.block k (by rw [HZ1.out]; exact hk2) (.inl (HD.out.new_none hk))
    have hg0 := (hkeep _ (by omega) (by omega)).trans HG0.out
    have hg1 : AnsAt w2 (w.heap.size + 2) := (hkeep _ (by omega) (by omega)).trans HG1.out
    have HS2 : Hid (Steps own own w w2) := HS1.out.trans hst
    have HT2 := Lib.hid htf
    have HNN : Hid (∀ k, w2.heap.size ≤ k → own k = none) := fun k hk => htf.disk.new_none hk
    have HG02 := Lib.hid hg0; have HG12 := Lib.hid hg1
    have HTK := Lib.hid (take3_any _ BD w2 hby)
    clear ho1 ho2 hby hst htf hkeep hg0 hg1 k0 HRD HT1 HG0 HG1 HD HS1
    rcases herr with rfl | rfl
    · go_wp2_with fail
      refine HTK.out.mono ?_
      rintro e w3 ⟨⟨hno, rfl⟩ | ⟨n, pi, ci, pk, ck, pd, cd, hsome, rfl, hnd, hown, hstay⟩, hb3⟩
      · have HS3 : Hid (Steps own own w w3) := HS2.out.trans (Steps.of_below hb3)
        have HT3 := Lib.hid (HT2.out.stay hb3)
        have HG13 : Hid (AnsAt w3 (w.heap.size + 2)) := (hb3.block _ (Array.getElem?_eq_some_iff.1 HG12.out).1).trans HG12.out
        have HXN : Hid (X = none) := by
          unfold Hid
          have e := HX2.out
          unfold nodeBy at e
          dsimp only at e
          rw [hno] at e
          simpa using e
        obtain ⟨W3, hW3⟩ : ∃ W3, W3 = w3.alloc (.cells #[.bool false, .slice none 0 0, .slice none 0 0, .slice none 0 0] 38) := ⟨_, rfl⟩
        have hb4 : Below w3.heap.size w3 W3 := by rw [hW3]; exact (Below.refl _ _).alloc (Nat.le_refl _) _
        have HW3 := Lib.hid hW3
        have HANS : Hid (∀ wz, Below W3.heap.size W3 wz → AnsAt wz (w.heap.size + 2)) := fun wz hz => ((hb4.trans (hz.mono hb4.size)).block _ (Array.getElem?_eq_some_iff.1 HG13.out).1).trans HG13.out
        have HNO : Hid (∀ wz, Below W3.heap.size W3 wz → RdNode F W g a o own w X (.returned (.tuple #[.agg #[.bool false, .slice none 0 0, .slice none 0 0, .slice none 0 0], .int .i64 2])) ((((wz.setCell ⟨w.heap.size + 2, 0, none⟩ (.bool false)).setCell ⟨w.heap.size + 2, 1, none⟩ (.slice none 0 0)).setCell ⟨w.heap.size + 2, 2, none⟩ (.slice none 0 0)).setCell ⟨w.heap.size + 2, 3, none⟩ (.slice none 0 0))) := fun wz hz => by
          have hbz := hb4.trans (hz.mono hb4.size)
          obtain ⟨e1, e2⟩ := rd_set HH0.out (HS3.out.trans (Steps.of_below hbz)) (HT3.out.stay hbz) (b := w.heap.size + 2) (by omega) (.bool false) (.slice none 0 0) (.slice none 0 0) (.slice none 0 0)
          exact ⟨o', HO.out.1, HO.out.2, e1, e2, .inl ⟨HXN.out, rfl⟩⟩
        clear hno hb3 hb4 hW3
        go_wp2_with fail
        rw [← HW3.out]
        go_wp2_with fail
        rename_i Kc hKc
        refine wp_region_left (by kernel_rfl)
          [.is (.int .i64 2), .is (.bool true), .is (.bool true), .is undef, .is undef, .is (.bool true), .is (.bool true), .is undef, .is undef, .is undef, .is undef, .is undef, .is (.bool true)]
          [[],[0],[1],[2],[2,3],[2,4],[5],[6],[6,7],[6],[6,9],[6,8,10],[6,11]] (by kernel_rfl) (by rfl) ?_ ?_
        · repeat' (first | exact LeftOps.nil | refine LeftOps.cons ?_ ?_)
          all_goals (intro wz hwz; clear hKc; try ((repeat (refine withLeft_is rfl rfl ?_)); (with_reducible refine withLeft_nil ?_); (try simp only [Act.put, arr0, arr1, arr2]); (try first | refine lft_run rfl rfl ?_ | refine lft_want rfl rfl rfl rfl ?_)))
          · exact lmv
          · unfold LftRun; go_wp2; exact lend
          · exact lmv
          · exact lsk
          · exact lsk
          · exact lpk
          · exact lmv
          · exact lsk
          · exact lsk
          · exact lsk
          · exact lsk
          · exact lsk
          · exact lpk
        intro wz hwz
        refine le8 (LeftEnd.is (LeftEnd.is (LeftEnd.is (LeftEnd.is (LeftEnd.is (LeftEnd.nil ?_))))))
        simp only [Act.put, arr0, arr1, arr2]
        have hA := HANS.out wz hwz
        have a0 := cells_of hA 0; have a1 := cells_of hA 1; have a2 := cells_of hA 2; have a3 := cells_of hA 3
        have q0 := free_of hA 0; have q1 := free_of hA 1; have q2 := free_of hA 2; have q3 := free_of hA 3
        have HX := Lib.hid (ans_set hA (.bool false) (.slice none 0 0) (.slice none 0 0) (.slice none 0 0))
        have HY := Lib.hid (HNO.out wz hwz)
        clear hA
        refine hKc _ _ ?_
        clear hKc Kc
        go_wp2
        exact bodyPost_ret (rd_ret rfl rfl HX.out rfl) rfl HY.out
      · have hm := (takeNd_may hsome)
        have hcnt := fun (W : World) (hB : Below w3.heap.size w3 W) => count_any (hnd.below hB) (Nat.le_trans (sum_may hm) (by decide))
        rw [cnt_cntN] at hcnt
        have HS3 : Hid (Steps own own w w3) := HS2.out.trans (Steps.of_below hb3)
        have HT3 := Lib.hid (HT2.out.stay hb3)
        have HG03 : Hid (w3.heap[w.heap.size + 1]? = some (.cells #[.int .i64 off, .int .u64 (ct : Nat)] 25 (0, 0))) := (hb3.block _ (Array.getElem?_eq_some_iff.1 HG02.out).1).trans HG02.out
        have HG13 : Hid (AnsAt w3 (w.heap.size + 2)) := (hb3.block _ (Array.getElem?_eq_some_iff.1 HG12.out).1).trans HG12.out
        obtain ⟨W3, hW3⟩ : ∃ W3, W3 = w3.alloc (.cells #[.bool n.leaf, .slice pi n.its.length ci, .slice pk n.ks.length ck, .slice pd n.kids.length cd] 38) := ⟨_, rfl⟩
        have hb4 : Below w3.heap.size w3 W3 := by rw [hW3]; exact (Below.refl _ _).alloc (Nat.le_refl _) _
        have hnew : NdAt W3 w3.heap.size n pi ci pk ck pd cd := by rw [hW3]; exact NdAt.new ..
        have HCNT : Hid (∀ wz, Below W3.heap.size W3 wz → _) := fun wz (hz : Below W3.heap.size W3 wz) => hcnt wz (hb4.trans (hz.mono hb4.size))
        have HCS : Hid (∀ wz, Below W3.heap.size W3 wz → wz.cell? ⟨w3.heap.size, 0, none⟩ = some (.bool n.leaf) ∧ wz.cell? ⟨w3.heap.size, 1, none⟩ = some (.slice pi n.its.length ci) ∧ wz.cell? ⟨w3.heap.size, 2, none⟩ = some (.slice pk n.ks.length ck) ∧ wz.cell? ⟨w3.heap.size, 3, none⟩ = some (.slice pd n.kids.length cd) ∧ wz.cell? ⟨w.heap.size + 1, 1, none⟩ = some (.int .u64 (ct : Nat))) := fun wz hz => by
          obtain ⟨m0, m1, m2, m3⟩ := (hnew.below hz).cells
          have hg := ((hb4.trans (hz.mono hb4.size)).block _ (Array.getElem?_eq_some_iff.1 HG03.out).1).trans HG03.out
          exact ⟨m0, m1, m2, m3, cells_of hg 1⟩
        have HANS : Hid (∀ wz, Below W3.heap.size W3 wz → AnsAt wz (w.heap.size + 2)) := fun wz hz => ((hb4.trans (hz.mono hb4.size)).block _ (Array.getElem?_eq_some_iff.1 HG13.out).1).trans HG13.out
        have HNO : Hid (X = none → ∀ wz, Below W3.heap.size W3 wz → RdNode F W g a o own w X (.returned (.tuple #[.agg #[.bool false, .slice none 0 0, .slice none 0 0, .slice none 0 0], .int .i64 2])) ((((wz.setCell ⟨w.heap.size + 2, 0, none⟩ (.bool false)).setCell ⟨w.heap.size + 2, 1, none⟩ (.slice none 0 0)).setCell ⟨w.heap.size + 2, 2, none⟩ (.slice none 0 0)).setCell ⟨w.heap.size + 2, 3, none⟩ (.slice none 0 0))) := fun hXN wz hz => by
          have hbz := hb4.trans (hz.mono hb4.size)
          obtain ⟨e1, e2⟩ := rd_set HH0.out (HS3.out.trans (Steps.of_below hbz)) (HT3.out.stay hbz) (b := w.heap.size + 2) (by omega) (.bool false) (.slice none 0 0) (.slice none 0 0) (.slice none 0 0)
          exact ⟨o', HO.out.1, HO.out.2, e1, e2, .inl ⟨hXN, rfl⟩⟩
        have HYES : Hid (X = some n → ∀ wz, Below W3.heap.size W3 wz → RdNode F W g a o own w X (.returned (.tuple #[.agg #[.bool n.leaf, .slice pi n.its.length ci, .slice pk n.ks.length ck, .slice pd n.kids.length cd], .int .i64 0])) ((((wz.setCell ⟨w.heap.size + 2, 0, none⟩ (.bool n.leaf)).setCell ⟨w.heap.size + 2, 1, none⟩ (.slice pi n.its.length ci)).setCell ⟨w.heap.size + 2, 2, none⟩ (.slice pk n.ks.length ck)).setCell ⟨w.heap.size + 2, 3, none⟩ (.slice pd n.kids.length cd))) := fun hXS wz hz => by
          have hbz := hb4.trans (hz.mono hb4.size)
          obtain ⟨e1, e2⟩ := rd_set HH0.out (HS3.out.trans (Steps.of_below hbz)) (HT3.out.stay hbz) (b := w.heap.size + 2) (by omega) (.bool n.leaf) (.slice pi n.its.length ci) (.slice pk n.ks.length ck) (.slice pd n.kids.length cd)
          have hlt12' := (Array.getElem?_eq_some_iff.1 HG12.out).1
          refine ⟨o', HO.out.1, HO.out.2, e1, e2, .inr ⟨n, pi, ci, pk, ck, pd, cd, hXS, rfl, fun k hk => ⟨HNN.out k (hown k hk), by have := hown k hk; omega⟩, fun W' hW' => hstay W' fun k hk hk2 => ?_⟩⟩
          have hkz : k < wz.heap.size := Nat.lt_of_lt_of_le hk2 hbz.size
          have hlt12 := (Array.getElem?_eq_some_iff.1 HG12.out).1
          rw [hW' k (by omega) (by simpa [World.setCell] using hkz) (HNN.out k hk), ans_other (A := w.heap.size + 2) (by omega)]
          exact hbz.block k hk2
        obtain ⟨CN, hCN⟩ : ∃ CN, CN = cntN n := ⟨_, rfl⟩
        rw [← hCN] at HCNT
        have hX3 : X = if KD = 2 then (if CN = ct then some n else none) else none := by
          have e := HX2.out
          unfold nodeBy at e
          dsimp only at e
          rw [hsome] at e
          rw [e, hCN]
          by_cases h2 : KD = 2 <;> simp [h2]
        have HW3 := Lib.hid hW3
        have HX3 := Lib.hid hX3
        clear hsome hnd hown hstay hb3 hb4 hnew hcnt hm hCN hX3 hW3
        generalize n.its.length = l1 at *
        generalize n.ks.length = l2 at *
        generalize n.kids.length = l3 at *
        generalize n.leaf = LF at *
        by_cases hk2 : KD = 2
        · subst hk2
          by_cases hc : CN = ct
          · have hX4 : X = some n := by rw [HX3.out, if_pos rfl, if_pos hc]
            have HYES := Lib.hid (HYES.out hX4)
            have hcc : ((CN : Int) != (ct : Int)) = false := by rw [hc]; simp
            clear HNO hX4 hc
            go_wp2_with fail
            rw [← HW3.out]
            go_wp2_with fail
            rename_i Kc hKc
            refine wp_region_left (by kernel_rfl)
              [.is (.int .i64 0), .is (.bool false), .is (.bool false), .is (.int .u8 (2 : Nat)), .is (.bool false), .is (.bool false), .is (.bool false), .is (.agg #[.bool LF, .slice pi l1 ci, .slice pk l2 ck, .slice pd l3 cd]), .is (.int .u64 (CN : Nat)), .is (.pointer (some ⟨w.heap.size + 1, 1, none⟩)), .is (.int .u64 (ct : Nat)), .is (.bool false), .is (.bool false)]
              [[],[0],[1],[2],[2,3],[2,4],[5],[6],[6,7],[6],[6,9],[6,8,10],[6,11]] (by kernel_rfl) (by rfl) ?_ ?_
            · repeat' (first | exact LeftOps.nil | refine LeftOps.cons ?_ ?_)
              all_goals (intro wz hwz; clear hKc; try ((repeat (refine withLeft_is rfl rfl ?_)); (with_reducible refine withLeft_nil ?_); (try simp only [Act.put, arr0, arr1, arr2]); (try first | refine lft_run rfl rfl ?_ | refine lft_want rfl rfl rfl rfl ?_)))
              · exact lmv
              · unfold LftRun; go_wp2; exact lend
              · exact lmv
              · exact lmv
              · unfold LftRun; go_wp2; exact lend
              · exact lpk
              · exact lmv
              · obtain ⟨m0, m1, m2, m3, r1⟩ := HCS.out wz hwz; unfold LftRun; go_wp2; exact lend
              · unfold LftRun; go_wp2_with fail; refine (HCNT.out wz hwz).mono ?_; rintro e wq ⟨rfl, hbq⟩; go_wp2; exact ⟨rfl, rfl, rfl, hbq⟩
              · unfold LftRun; go_wp2; exact lend
              · obtain ⟨m0, m1, m2, m3, r1⟩ := HCS.out wz hwz; unfold LftRun; go_wp2; exact lend
              · unfold LftRun; go_wp2; exact lend
              · exact lpk
            intro wz hwz
            refine le8 (LeftEnd.is (LeftEnd.is (LeftEnd.is (LeftEnd.is (LeftEnd.is (LeftEnd.nil ?_))))))
            simp only [Act.put, arr0, arr1, arr2]
            have hA := HANS.out wz hwz
            have a0 := cells_of hA 0; have a1 := cells_of hA 1; have a2 := cells_of hA 2; have a3 := cells_of hA 3
            have q0 := free_of hA 0; have q1 := free_of hA 1; have q2 := free_of hA 2; have q3 := free_of hA 3
            obtain ⟨m0, m1, m2, m3, r1⟩ := HCS.out wz hwz
            have HX := Lib.hid (ans_set hA (.bool LF) (.slice pi l1 ci) (.slice pk l2 ck) (.slice pd l3 cd))
            have HY := Lib.hid (HYES.out wz hwz)
            clear hA
            refine hKc _ _ ?_
            clear hKc Kc
            go_wp2
            exact bodyPost_ret (rd_ret rfl rfl HX.out rfl) rfl HY.out
          · have hX4 : X = none := by rw [HX3.out, if_pos rfl, if_neg hc]
            have HNO := Lib.hid (HNO.out hX4)
            have hcc : ((CN : Int) != (ct : Int)) = true := by simp; omega
            clear HYES hX4 hc
            go_wp2_with fail
            rw [← HW3.out]
            go_wp2_with fail
            rename_i Kc hKc
            refine wp_region_left (by kernel_rfl)
              [.is (.int .i64 0), .is (.bool false), .is (.bool false), .is (.int .u8 (2 : Nat)), .is (.bool false), .is (.bool false), .is (.bool false), .is (.agg #[.bool LF, .slice pi l1 ci, .slice pk l2 ck, .slice pd l3 cd]), .is (.int .u64 (CN : Nat)), .is (.pointer (some ⟨w.heap.size + 1, 1, none⟩)), .is (.int .u64 (ct : Nat)), .is (.bool true), .is (.bool true)]
              [[],[0],[1],[2],[2,3],[2,4],[5],[6],[6,7],[6],[6,9],[6,8,10],[6,11]] (by kernel_rfl) (by rfl) ?_ ?_
            · repeat' (first | exact LeftOps.nil | refine LeftOps.cons ?_ ?_)
              all_goals (intro wz hwz; clear hKc; try ((repeat (refine withLeft_is rfl rfl ?_)); (with_reducible refine withLeft_nil ?_); (try simp only [Act.put, arr0, arr1, arr2]); (try first | refine lft_run rfl rfl ?_ | refine lft_want rfl rfl rfl rfl ?_)))
              · exact lmv
              · unfold LftRun; go_wp2; exact lend
              · exact lmv
              · exact lmv
              · unfold LftRun; go_wp2; exact lend
              · exact lpk
              · exact lmv
              · obtain ⟨m0, m1, m2, m3, r1⟩ := HCS.out wz hwz; unfold LftRun; go_wp2; exact lend
              · unfold LftRun; go_wp2_with fail; refine (HCNT.out wz hwz).mono ?_; rintro e wq ⟨rfl, hbq⟩; go_wp2; exact ⟨rfl, rfl, rfl, hbq⟩
              · unfold LftRun; go_wp2; exact lend
              · obtain ⟨m0, m1, m2, m3, r1⟩ := HCS.out wz hwz; unfold LftRun; go_wp2; exact lend
              · unfold LftRun; go_wp2; exact lend
              · exact lpk
            intro wz hwz
            refine le8 (LeftEnd.is (LeftEnd.is (LeftEnd.is (LeftEnd.is (LeftEnd.is (LeftEnd.nil ?_))))))
            simp only [Act.put, arr0, arr1, arr2]
            have hA := HANS.out wz hwz
            have a0 := cells_of hA 0; have a1 := cells_of hA 1; have a2 := cells_of hA 2; have a3 := cells_of hA 3
            have q0 := free_of hA 0; have q1 := free_of hA 1; have q2 := free_of hA 2; have q3 := free_of hA 3
            have HX := Lib.hid (ans_set hA (.bool false) (.slice none 0 0) (.slice none 0 0) (.slice none 0 0))
            have HY := Lib.hid (HNO.out wz hwz)
            clear hA
            refine hKc _ _ ?_
            clear hKc Kc
            go_wp2
            exact bodyPost_ret (rd_ret rfl rfl HX.out rfl) rfl HY.out
        · have hX4 : X = none := by rw [HX3.out, if_neg hk2]
          have HNO := Lib.hid (HNO.out hX4)
          have hkk : ((KD : Int) != 2) = true := by simp; omega
          clear HYES hX4 hk2
          go_wp2_with fail
          rw [← HW3.out]
          go_wp2_with fail
          rename_i Kc hKc
          refine wp_region_left (by kernel_rfl)
            [.is (.int .i64 0), .is (.bool false), .is (.bool false), .is (.int .u8 (KD : Nat)), .is (.bool true), .is (.bool true), .is (.bool true), .is undef, .is undef, .is undef, .is undef, .is undef, .is (.bool true)]
            [[],[0],[1],[2],[2,3],[2,4],[5],[6],[6,7],[6],[6,9],[6,8,10],[6,11]] (by kernel_rfl) (by rfl) ?_ ?_
          · repeat' (first | exact LeftOps.nil | refine LeftOps.cons ?_ ?_)
            all_goals (intro wz hwz; clear hKc; try ((repeat (refine withLeft_is rfl rfl ?_)); (with_reducible refine withLeft_nil ?_); (try simp only [Act.put, arr0, arr1, arr2]); (try first | refine lft_run rfl rfl ?_ | refine lft_want rfl rfl rfl rfl ?_)))
            · exact lmv
            · unfold LftRun; go_wp2; exact lend
            · exact lmv
            · exact lmv
            · unfold LftRun; go_wp2; exact lend
            · exact lpk
            · exact lmv
            · exact lsk
            · exact lsk
            · exact lsk
            · exact lsk
            · exact lsk
            · exact lpk
          intro wz hwz
          refine le8 (LeftEnd.is (LeftEnd.is (LeftEnd.is (LeftEnd.is (LeftEnd.is (LeftEnd.nil ?_))))))
          simp only [Act.put, arr0, arr1, arr2]
          have hA := HANS.out wz hwz
          have a0 := cells_of hA 0; have a1 := cells_of hA 1; have a2 := cells_of hA 2; have a3 := cells_of hA 3
          have q0 := free_of hA 0; have q1 := free_of hA 1; have q2 := free_of hA 2; have q3 := free_of hA 3
          have HX := Lib.hid (ans_set hA (.bool false) (.slice none 0 0) (.slice none 0 0) (.slice none 0 0))
          have HY := Lib.hid (HNO.out wz hwz)
          clear hA
          refine hKc _ _ ?_
          clear hKc Kc
          go_wp2
          exact bodyPost_ret (rd_ret rfl rfl HX.out rfl) rfl HY.out
    · have a0 := cells_of HG12.out 0; have a1 := cells_of HG12.out 1; have a2 := cells_of HG12.out 2; have a3 := cells_of HG12.out 3
      have q0 := free_of HG12.out 0; have q1 := free_of HG12.out 1; have q2 := free_of HG12.out 2; have q3 := free_of HG12.out 3
      have HXN : Hid (X = none) := by
        unfold Hid
        have e := HX2.out
        unfold nodeBy at e
        simpa using e
      obtain ⟨e1, e2⟩ := rd_set HH0.out HS2.out HT2.out (b := w.heap.size + 2) (by omega) (.bool false) (.slice none 0 0) (.slice none 0 0) (.slice none 0 0)
      have HF : Hid (RdNode F W g a o own w X (.returned (.tuple #[.agg #[.bool false, .slice none 0 0, .slice none 0 0, .slice none 0 0], .int .i64 2])) ((((w2.setCell ⟨w.heap.size + 2, 0, none⟩ (.bool false)).setCell ⟨w.heap.size + 2, 1, none⟩ (.slice none 0 0)).setCell ⟨w.heap.size + 2, 2, none⟩ (.slice none 0 0)).setCell ⟨w.heap.size + 2, 3, none⟩ (.slice none 0 0))) := ⟨o', HO.out.1, HO.out.2, e1, e2, .inl ⟨HXN.out, rfl⟩⟩
      have HX := Lib.hid (ans_set HG12.out (.bool false) (.slice none 0 0) (.slice none 0 0) (.slice none 0 0))
      clear e1 e2
      go_wp2
      exact bodyPost_ret (rd_ret rfl rfl HX.out rfl) rfl HF.out
end Go.Proofs.YtlagllhhahomlaaGreat.Sl.Nd
/- Batches in a program: a leaf is laid. -/
namespace Go.Proofs.YtlagllhhahomlaaGreat.Sl.Nd
open Go Go.RowKit Go.By
set_option maxRecDepth 100000 in
theorem count_leaf (w : World) (pi : Option Addr) (n ci : Nat) (h8 : n ≤ 8) : Calls Tryz.prog 108 #[.agg #[.bool true, .slice pi n ci, .slice none 0 0, .slice none 0 0]] w fun e w' => e = .returned (.int .u64 (n : Nat)) ∧ Below w.heap.size w w' := by
  have hb := (Below.refl w.heap.size w).alloc (Nat.le_refl _) (.cells #[.bool true, .slice pi n ci, .slice none 0 0, .slice none 0 0] 38)
  have hw : IntKind.u64.wrap (n : Int) = (n : Nat) := by rw [IntKind.wrap_u64]; omega
  go_enter Tryz.func108, Tryz.ntmps108
  go_wp2
  go_ret
  exact ⟨rfl, hb⟩
def LaidLf (R : Int) (C : List Nat) (os : List ByteOp) (W : World) (g a o : Nat) (own : Own) (its : List NIt) (w : World) (e : Ending) (w' : World) : Prop :=
  e = .returned (.tuple #[.agg #[.int .i64 (256 + C.length : Nat), .int .u64 (its.length : Nat)], .int .i64 0]) ∧
    ∃ own', Moves g own own' w w' ∧ Tf (fsT R (C ++ recOf 2 (putNd (lfOf its))) (os ++ [.write (256 + C.length) (recOf 2 (putNd (lfOf its)))])) W g a (o + 1) own' w'
set_option maxRecDepth 100000 in
set_option maxHeartbeats 4000000 in
theorem lay_leaf {R : Int} {C : List Nat} {os : List ByteOp} {W w : World} {g a o uu : Nat} {lv : Int} {own : Own} (h : Tf (fsT R C os) W g a o own w) (hR : ((256 + C.length + 4105 : Nat) : Int) ≤ R ∧ R ≤ 1099511627776) (h16 : 256 + C.length ≤ 16777216) (ho : o < 1000000 ∧ os.length < 1000000)
    (hu : w.heap[uu]? = some (.cells #[.pointer (some ⟨g, 0, none⟩), .int .i64 lv] 106 (0, 0))) {pi : Option Addr} {ci : Nat} {its : List NIt} (hi : RowAt KItem w pi ci its) (hm : mayNd (lfOf its) = true) :
    Calls Tryz.prog 90 #[.pointer (some ⟨uu, 0, none⟩), .agg #[.bool true, .slice pi its.length ci, .slice none 0 0, .slice none 0 0]] w (LaidLf R C os W g a o own its w) := by
  have h8 : its.length ≤ 8 := (may_lf (n := lfOf its) rfl hm).1.2
  obtain ⟨W1, hW1⟩ : ∃ W1, W1 = (w.alloc (.cells #[.bool true, .slice pi its.length ci, .slice none 0 0, .slice none 0 0] 38)).alloc (.cells #[.int .i64 0, .int .u64 0] 25) := ⟨_, rfl⟩
  have hWs : W1 = allocs w [.cells #[.bool true, .slice pi its.length ci, .slice none 0 0, .slice none 0 0] 38, .cells #[.int .i64 0, .int .u64 0] 25] := hW1
  have g0 : W1.heap[w.heap.size]? = some (.cells #[.bool true, .slice pi its.length ci, .slice none 0 0, .slice none 0 0] 38 (0, 0)) := by rw [hWs]; exact allocs_at (i := 0) rfl
  have g1 : W1.heap[w.heap.size + 1]? = some (.cells #[.int .i64 0, .int .u64 0] 25 (0, 0)) := by rw [hWs]; exact allocs_at (i := 1) rfl
  have hb1 : Below w.heap.size w W1 := by rw [hWs]; exact allocs_below _ _
  have hz1 : W1.heap.size = w.heap.size + 2 := by rw [hW1]; simp
  have hul : uu < w.heap.size := (Array.getElem?_eq_some_iff.1 hu).1
  have gu : W1.heap[uu]? = some (.cells #[.pointer (some ⟨g, 0, none⟩), .int .i64 lv] 106 (0, 0)) := (hb1.block _ hul).trans hu
  have HM : Hid (Calls Tryz.prog 123 #[.agg #[.bool true, .slice pi its.length ci, .slice none 0 0, .slice none 0 0]] W1 fun e w' => e = .returned (.bool true) ∧ Below W1.heap.size W1 w') := by
    have := may_any (w := W1) (n := lfOf its) ⟨rfl, hi.below hb1, rowAt_nil _ _, rowAt_nil _ _⟩
    rw [hm] at this
    exact this
  have HPU : Hid (∀ Wx, Below W1.heap.size W1 Wx → Calls Tryz.prog 124 #[.agg #[.bool true, .slice pi its.length ci, .slice none 0 0, .slice none 0 0]] Wx (Rows Wx (putNd (lfOf its)))) := fun Wx hx => put_any (n := lfOf its) ⟨rfl, (hi.below hb1).below hx, rowAt_nil _ _, rowAt_nil _ _⟩
  have HAP : Hid (∀ Wx bv, Below W1.heap.size W1 Wx → Bytes Wx bv (putNd (lfOf its)) → Calls Tryz.prog 13 #[.pointer (some ⟨g, 0, none⟩), .int .u8 2, bv] Wx fun e w' => e = .returned (.tuple #[.int .i64 (256 + C.length : Nat), .int .i64 0]) ∧
      ∃ own', Moves g own own' Wx w' ∧ Tf (fsT R (C ++ recOf 2 (putNd (lfOf its))) (os ++ [.write (256 + C.length) (recOf 2 (putNd (lfOf its)))])) W g a (o + 1) own' w') := fun Wx bv hx hbv => app_tf ((h.stay hb1).stay hx) hR h16 ho (by decide) hbv (by have := putNd_length (lfOf its); omega)
  have HT := Lib.hid h; have HB1 := Lib.hid hb1; have HG0 := Lib.hid g0; have HG1 := Lib.hid g1; have HGU := Lib.hid gu; have HZ1 := Lib.hid hz1; have HUL := Lib.hid hul; have H8 := Lib.hid h8
  have HW1 : Hid (W1 = (w.alloc (.cells #[.bool true, .slice pi its.length ci, .slice none 0 0, .slice none 0 0] 38)).alloc (.cells #[.int .i64 0, .int .u64 0] 25)) := hW1
  have n0 : W1.cell? ⟨w.heap.size, 0, none⟩ = some (.bool true) := cells_of g0 0
  have n1 : W1.cell? ⟨w.heap.size, 1, none⟩ = some (.slice pi its.length ci) := cells_of g0 1
  have n2 : W1.cell? ⟨w.heap.size, 2, none⟩ = some (.slice none 0 0) := cells_of g0 2
  have n3 : W1.cell? ⟨w.heap.size, 3, none⟩ = some (.slice none 0 0) := cells_of g0 3
  have hlz : (putNd (lfOf its)).length ≤ 1300 := putNd_length _
  have HLZ := Lib.hid hlz
  have HPS : Hid (∀ c ∈ putNd (lfOf its), c < 256) := putNd_small (IsNd.fine (w := w) (n := lfOf its) ⟨rfl, hi, rowAt_nil _ _, rowAt_nil _ _⟩)
  have hgl : g < w.heap.size := h.file.lt
  have hnn : ∀ k, w.heap.size ≤ k → own k = none := fun k hk => h.disk.new_none hk
  have hWl : W.heap.size ≤ w.heap.size := h.disk.below.size
  have HK4 : Hid (∀ Wx Wy own4, Below W1.heap.size W1 Wx → Moves g own own4 Wx Wy → Wy.heap[w.heap.size]? = some (.cells #[.bool true, .slice pi its.length ci, .slice none 0 0, .slice none 0 0] 38 (0, 0)) ∧ Wy.heap[w.heap.size + 1]? = some (.cells #[.int .i64 0, .int .u64 0] 25 (0, 0))) := fun Wx Wy own4 hx hm => by
    have hsz := hx.size
    exact ⟨(hm.block w.heap.size (by omega) (by omega) (.inl (hnn _ (Nat.le_refl _)))).trans ((hx.block w.heap.size (by omega)).trans g0), (hm.block (w.heap.size + 1) (by omega) (by omega) (.inl (hnn _ (Nat.le_succ _)))).trans ((hx.block (w.heap.size + 1) (by omega)).trans g1)⟩
  have HCT := Lib.hid (fun Wx => count_leaf Wx pi its.length ci h8)
  have HFN : Hid (∀ w3 w4 w5 own4, Below W1.heap.size W1 w3 → Moves g own own4 w3 w4 → Tf (fsT R (C ++ recOf 2 (putNd (lfOf its))) (os ++ [.write (256 + C.length) (recOf 2 (putNd (lfOf its)))])) W g a (o + 1) own4 w4 → Below w4.heap.size w4 w5 →
      LaidLf R C os W g a o own its w (.returned (.tuple #[.agg #[.int .i64 (256 + C.length : Nat), .int .u64 (its.length : Nat)], .int .i64 0])) ((w5.setCell ⟨w.heap.size + 1, 0, none⟩ (.int .i64 (256 + C.length : Nat))).setCell ⟨w.heap.size + 1, 1, none⟩ (.int .u64 (its.length : Nat)))) := fun w3 w4 w5 own4 hx hm4 ht4 hb5 => by
    have hsz := hx.size
    have hon : own4 (w.heap.size + 1) = none := (hm4.same _ (by omega)).trans (hnn _ (Nat.le_succ _))
    have hgne : g ≠ w.heap.size + 1 := by omega
    refine ⟨rfl, own4, ?_, ((ht4.stay hb5).set hon (by omega) hgne 0 _).set hon (by omega) hgne 1 _⟩
    have m1 : Moves g own own w w3 := (Steps.of_below (hb1.trans (hx.mono hb1.size))).moves g
    have m2 := (m1.trans hm4).trans ((Steps.of_below (own := own4) hb5).moves g)
    refine ⟨m2.os, m2.tape, m2.output, by have := m2.size; simpa [World.setCell] using this, fun k hk hkg ho => ?_, m2.same⟩
    rw [Below.heap_setCell _ _ _ _ (by show k ≠ w.heap.size + 1; omega), Below.heap_setCell _ _ _ _ (by show k ≠ w.heap.size + 1; omega)]
    exact m2.block k hk hkg ho
  clear h hR h16 ho hu hi hm hWs g0 g1 gu hb1 hz1 hul h8 hlz hgl hnn hWl
  obtain ⟨L, hL⟩ : ∃ L, L = its.length := ⟨_, rfl⟩
  have HL := Lib.hid hL
  rw [← hL] at HM HPU n1 HG0 HW1 hW1 HK4 HCT HFN ⊢
  clear hL hW1 n0 n1 n2 n3
  go_enter Tryz.func90, Tryz.ntmps90
  go_wp2_with fail
  rw [← HW1.out]
  refine HM.out.mono ?_
  rintro e w2 ⟨rfl, hb2⟩
  have hd : Below W1.heap.size W1 w2.drew := hb2.drew
  have kp : ∀ {Wx : World} {k : Nat} {x : Obj}, Below W1.heap.size W1 Wx → W1.heap[k]? = some x → Wx.heap[k]? = some x := fun hx hk => (hx.block _ (Array.getElem?_eq_some_iff.1 hk).1).trans hk
  have KP := Lib.hid (fun (Wx : World) (hx : Below W1.heap.size W1 Wx) => (⟨kp hx HGU.out, kp hx HG0.out, kp hx HG1.out⟩ : _ ∧ _ ∧ _))
  obtain ⟨ku, kn, -⟩ := KP.out _ hd
  have u0 : w2.drew.cell? ⟨uu, 0, none⟩ = some (.pointer (some ⟨g, 0, none⟩)) := cells_of ku 0
  have m0 : w2.drew.cell? ⟨w.heap.size, 0, none⟩ = some (.bool true) := cells_of kn 0
  have m1 : w2.drew.cell? ⟨w.heap.size, 1, none⟩ = some (.slice pi L ci) := cells_of kn 1
  have m2 : w2.drew.cell? ⟨w.heap.size, 2, none⟩ = some (.slice none 0 0) := cells_of kn 2
  have m3 : w2.drew.cell? ⟨w.heap.size, 3, none⟩ = some (.slice none 0 0) := cells_of kn 3
  have HD := Lib.hid hd
  clear hd hb2 kp ku kn HM
  go_wp2_with fail
  go_region_law (first
    | (go_simp; go_at_call 124; (with_reducible refine (HPU.out _ HD.out).mono ?_); rintro e3 w3 ⟨v3, rfl, o3, b3⟩
       have HB3 := Lib.hid (HD.out.trans (b3.mono HD.out.size))
       obtain ⟨ku3, kn3, -⟩ := KP.out _ HB3.out
       have u3 : w3.cell? ⟨uu, 0, none⟩ = some (.pointer (some ⟨g, 0, none⟩)) := cells_of ku3 0
       have p0 : w3.cell? ⟨w.heap.size, 0, none⟩ = some (.bool true) := cells_of kn3 0
       have p1 : w3.cell? ⟨w.heap.size, 1, none⟩ = some (.slice pi L ci) := cells_of kn3 1
       have p2 : w3.cell? ⟨w.heap.size, 2, none⟩ = some (.slice none 0 0) := cells_of kn3 2
       have p3 : w3.cell? ⟨w.heap.size, 3, none⟩ = some (.slice none 0 0) := cells_of kn3 3
       have HV3 : Hid (Bytes w3 v3 (putNd (lfOf its))) := Bytes.of_owns o3 HPS.out (by have := HLZ.out; unfold maxLen; omega)
       obtain ⟨q3, d3, rfl, -⟩ := HV3.out.any
       clear o3 b3 ku3 kn3)
    | (go_simp; go_at_call 13; (with_reducible refine (HAP.out _ _ HB3.out HV3.out).mono ?_); rintro e4 w4 ⟨rfl, own4, mv4, tf4⟩
       have HM4 := Lib.hid mv4; have HT4 := Lib.hid tf4
       obtain ⟨kn4, kr4⟩ := HK4.out _ _ own4 HB3.out mv4
       have s0 : w4.cell? ⟨w.heap.size, 0, none⟩ = some (.bool true) := cells_of kn4 0
       have s1 : w4.cell? ⟨w.heap.size, 1, none⟩ = some (.slice pi L ci) := cells_of kn4 1
       have s2 : w4.cell? ⟨w.heap.size, 2, none⟩ = some (.slice none 0 0) := cells_of kn4 2
       have s3 : w4.cell? ⟨w.heap.size, 3, none⟩ = some (.slice none 0 0) := cells_of kn4 3
       have HR4 := Lib.hid kr4
       clear mv4 tf4 kn4 kr4))
  all_goals
    go_wp2_with fail
    refine (HCT.out _).mono ?_
    rintro e5 w5 ⟨rfl, hb5⟩
    have kr5 : w5.heap[w.heap.size + 1]? = some (.cells #[.int .i64 0, .int .u64 0] 25 (0, 0)) := (hb5.block _ (Array.getElem?_eq_some_iff.1 HR4.out).1).trans HR4.out
    have t0 : w5.cell? ⟨w.heap.size + 1, 0, none⟩ = some (.int .i64 0) := cells_of kr5 0
    have t1 : w5.cell? ⟨w.heap.size + 1, 1, none⟩ = some (.int .u64 0) := cells_of kr5 1
    have q0 := free_of kr5 0; have q1 := free_of kr5 1
    have HX := Lib.hid (fun (_ : Unit) => two_set (a := .int .i64 (256 + C.length : Nat)) (b := .int .u64 (L : Nat)) kr5)
    have HF := Lib.hid (HFN.out w3 w4 w5 own4 HB3.out HM4.out HT4.out hb5)
    clear hb5 kr5 HM4 HT4 HR4
    go_wp2
    exact bodyPost_ret (cell_ret2 (p := 4) (u := 5) (x := .int .i64 0) (ty := 25) (n := 2) (by kernel_rfl) (by kernel_rfl) (by kernel_rfl) rfl rfl (HX.out ()) rfl) rfl HF.out
end Go.Proofs.YtlagllhhahomlaaGreat.Sl.Nd
