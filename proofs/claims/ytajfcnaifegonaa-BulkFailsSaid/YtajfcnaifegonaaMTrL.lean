/- Nodes in a program: which may be, by the document. -/
import Derived.Test.YtajfcnaifegonaaMTrX
import Derived.Test.YtajfcnaifegonaaMSlB
import Derived.Test.YtajfcnaifegonaaMCmpM
import Derived.Test.YtajfcnaifegonaaMTrR
namespace Go.By
open Go Go.RowKit
theorem rises_snoc : ∀ (l : List (List Nat)) (a : List Nat), risesN (l ++ [a]) = (risesN l && (match l.getLast? with | none => true | some b => lessN b a))
  | [], a => rfl
  | [b], a => by simp [risesN]
  | b :: c :: r, a => by
    have ih := rises_snoc (c :: r) a
    have e1 : risesN (b :: c :: r ++ [a]) = (lessN b c && risesN (c :: r ++ [a])) := rfl
    have e2 : risesN (b :: c :: r) = (lessN b c && risesN (c :: r)) := rfl
    rw [e1, e2, ih, List.getLast?_cons_cons, Bool.and_assoc]
theorem rises_left : ∀ (a b : List (List Nat)), risesN (a ++ b) = true → risesN a = true
  | [], _, _ => rfl
  | [_], _, _ => rfl
  | x :: y :: r, b, h => by
    have h' : (lessN x y && risesN (y :: r ++ b)) = true := h
    rw [Bool.and_eq_true] at h'
    show (lessN x y && risesN (y :: r)) = true
    rw [h'.1, rises_left (y :: r) b h'.2]; rfl
def okKs (l : List (List Nat)) : Bool := l.all mayK && risesN l
theorem okKs_next {l : List (List Nat)} {i : Nat} (h : i < l.length) : okKs (l.take (i + 1)) = (okKs (l.take i) && (mayK l[i] && (decide (i = 0) || lessN (l[i - 1]'(by omega)) l[i]))) := by
  unfold okKs
  rw [List.take_succ_eq_append_getElem h, List.all_append, rises_snoc]
  have e : (match (l.take i).getLast? with | none => true | some b => lessN b l[i]) = (decide (i = 0) || lessN (l[i - 1]'(by omega)) l[i]) := by
    by_cases h0 : i = 0
    · subst h0; rfl
    · rw [decide_eq_false h0, Bool.false_or, List.getLast?_take, if_neg h0]
      rw [List.getElem?_eq_getElem (by omega)]
      rfl
  rw [e]
  simp only [List.all_cons, List.all_nil, Bool.and_true]
  cases (l.take i).all mayK <;> cases risesN (l.take i) <;> cases mayK l[i] <;> simp
theorem okKs_no {l : List (List Nat)} {i : Nat} (hn : okKs (l.take (i + 1)) = false) : okKs l = false := by
  cases ho : okKs l with
  | false => rfl
  | true =>
    exfalso
    unfold okKs at ho hn
    rw [Bool.and_eq_true, List.all_eq_true] at ho
    rw [Bool.and_eq_false_iff] at hn
    rcases hn with hn | hn
    · have : (l.take (i + 1)).all mayK = true := List.all_eq_true.2 fun x hx => ho.1 x (List.mem_of_mem_take hx)
      rw [this] at hn; cases hn
    · have := rises_left (l.take (i + 1)) (l.drop (i + 1)) (by rw [List.take_append_drop]; exact ho.2)
      rw [this] at hn; cases hn
def okVs (l : List NIt) : Bool := l.all (fun i => decide (i.v.length ≤ 120))
def okIts (l : List NIt) : Bool := okKs (l.map (·.k)) && okVs l
theorem okIts_may {n : Nd} (hl : n.leaf = true) : mayNd n = (decide (n.ks = [] ∧ n.kids = []) && (decide (1 ≤ n.its.length ∧ n.its.length ≤ 8) && okIts n.its)) := by
  unfold mayNd
  rw [if_pos hl]
  unfold mayLf okIts okKs okVs
  have e : n.its.all mayIt = ((n.its.map (·.k)).all mayK && n.its.all (fun i => decide (i.v.length ≤ 120))) := by
    induction n.its with
    | nil => rfl
    | cons i r ih =>
      rw [List.map_cons, List.all_cons, List.all_cons, List.all_cons, ih]
      unfold mayIt
      cases mayK i.k <;> cases decide (i.v.length ≤ 120) <;> cases (r.map (·.k)).all mayK <;> simp
  rw [e]
  cases decide (1 ≤ n.its.length ∧ n.its.length ≤ 8) <;> cases (n.its.map (·.k)).all mayK <;> cases n.its.all (fun i => decide (i.v.length ≤ 120)) <;> cases risesN (n.its.map (·.k)) <;> simp
theorem okIn_may {n : Nd} (hl : n.leaf = false) : mayNd n = (decide (n.its = []) && (decide (2 ≤ n.kids.length ∧ n.kids.length ≤ 8) && (decide (n.ks.length = n.kids.length) && (okKs n.ks && n.kids.all mayKd)))) := by
  unfold mayNd
  rw [hl, if_neg (by decide)]
  unfold mayIn okKs
  cases decide (2 ≤ n.kids.length ∧ n.kids.length ≤ 8) <;> cases decide (n.ks.length = n.kids.length) <;> cases n.ks.all mayK <;> cases risesN n.ks <;> cases n.kids.all mayKd <;> simp
theorem okVs_next {l : List NIt} {i : Nat} (h : i < l.length) : okVs (l.take (i + 1)) = (okVs (l.take i) && decide (l[i].v.length ≤ 120)) := by
  unfold okVs
  rw [List.take_succ_eq_append_getElem h, List.all_append]
  simp
theorem okVs_no {l : List NIt} {i : Nat} (hn : okVs (l.take (i + 1)) = false) : okVs l = false := by
  cases ho : okVs l with
  | false => rfl
  | true =>
    unfold okVs at ho hn
    rw [List.all_eq_true] at ho
    have : (l.take (i + 1)).all (fun i => decide (i.v.length ≤ 120)) = true := List.all_eq_true.2 fun x hx => ho x (List.mem_of_mem_take hx)
    rw [this] at hn; cases hn
theorem okIts_next {l : List NIt} {i : Nat} (h : i < l.length) (h0 : okIts (l.take i) = true) : okIts (l.take (i + 1)) = (mayK l[i].k && (decide (i = 0) || lessN (l[i - 1]'(by omega)).k l[i].k) && decide (l[i].v.length ≤ 120)) := by
  unfold okIts at *
  rw [Bool.and_eq_true] at h0
  have hm : i < (l.map (·.k)).length := by simpa using h
  have := okKs_next hm
  rw [← List.map_take, ← List.map_take, h0.1, Bool.true_and] at this
  rw [this, okVs_next h, h0.2, Bool.true_and]
  simp
theorem okIts_no {l : List NIt} {i : Nat} (hn : okIts (l.take (i + 1)) = false) : okIts l = false := by
  unfold okIts at *
  rw [Bool.and_eq_false_iff] at *
  rcases hn with hn | hn
  · rw [List.map_take] at hn
    exact .inl (okKs_no hn)
  · exact .inr (okVs_no hn)
theorem kd_next {l : List NKd} {i : Nat} (h : i < l.length) : (l.take (i + 1)).all mayKd = ((l.take i).all mayKd && mayKd l[i]) := by
  rw [List.take_succ_eq_append_getElem h, List.all_append]
  simp
theorem kd_no {l : List NKd} {i : Nat} (h : i < l.length) (hn : mayKd l[i] = false) : l.all mayKd = false := by
  cases ho : l.all mayKd with
  | false => rfl
  | true => rw [List.all_eq_true.1 ho _ (List.getElem_mem h)] at hn; cases hn
end Go.By
namespace Go.Proofs.Ytajfcnaifegonaa.Sl.Nd
open Go Go.RowKit Go.By
theorem run_leq (s t : ByteArray) (w : World) : (binOp .leq 9 (.string s) (.string t)).run Try.prog w = .ok (.bool (Op.bytesLess s.toList t.toList || s.toList == t.toList)) w := by kernel_rfl
theorem leq_str {a b : List Nat} (ha : ∀ c ∈ a, c < 256) (hb : ∀ c ∈ b, c < 256) (w : World) : (binOp .leq 9 (.string (strOf a)) (.string (strOf b))).run Try.prog w = .ok (.bool (!lessN b a)) w := by
  rw [run_leq, less_str, natsOf_strOf ha, natsOf_strOf hb]
  congr 2
  have e : ((strOf a).toList == (strOf b).toList) = decide (a = b) := by
    rw [Bool.eq_iff_iff, beq_iff_eq, decide_eq_true_eq]
    constructor
    · intro h
      have h2 : natsOf (strOf a) = natsOf (strOf b) := by unfold natsOf; rw [h]
      rwa [natsOf_strOf ha, natsOf_strOf hb] at h2
    · intro h; rw [h]
  rw [e]
  cases h1 : lessN b a with
  | true =>
    have h2 : lessN a b = false := by
      cases h3 : lessN a b with
      | false => rfl
      | true => have := lessN_trans h1 h3; rw [lessN_irrefl] at this; cases this
    have h4 : a ≠ b := by rintro rfl; rw [lessN_irrefl] at h1; cases h1
    rw [h2, decide_eq_false h4]; rfl
  | false =>
    cases h2 : lessN a b with
    | true => rfl
    | false => rw [decide_eq_true (lessN_eq h2 h1)]; rfl
set_option maxRecDepth 100000 in
theorem mayKey_any {w : World} {v : Value} {l : List Nat} (h : Bytes w v l) : Calls Try.prog 87 #[v] w fun e w' => e = .returned (.bool (mayK l)) ∧ w' = w := by
  obtain ⟨p, c, rfl, -⟩ := h.any
  have hs := h.short
  unfold maxLen at hs
  have HX : Hid (mayK l = (decide (1 ≤ l.length) && decide (l.length ≤ 40))) := rfl
  rw [HX.out]
  clear h HX
  generalize l.length = n at *
  by_cases h1 : 1 ≤ n
  · by_cases h2 : n ≤ 40
    · have q1 : decide (1 ≤ (n : Int)) = true := decide_eq_true (by omega)
      have q2 : decide ((n : Int) ≤ 40) = true := decide_eq_true (by omega)
      rw [decide_eq_true h1, decide_eq_true h2]
      have q3 : (1 : Int) ≤ n := by omega
      have q4 : (n : Int) ≤ 40 := by omega
      clear h1 h2 hs
      go_enter Try.func87, Try.ntmps87
      go_wp2
      go_ret
      exact ⟨rfl, rfl⟩
    · have q1 : decide (1 ≤ (n : Int)) = true := decide_eq_true (by omega)
      have q2 : decide ((n : Int) ≤ 40) = false := decide_eq_false (by omega)
      rw [decide_eq_true h1, decide_eq_false h2]
      have q3 : (1 : Int) ≤ n := by omega
      have q4 : ¬ (n : Int) ≤ 40 := by omega
      clear h1 h2 hs
      go_enter Try.func87, Try.ntmps87
      go_wp2
      go_ret
      exact ⟨rfl, rfl⟩
  · obtain rfl : n = 0 := by omega
    clear h1 hs
    go_enter Try.func87, Try.ntmps87
    go_wp2
    go_ret
    exact ⟨rfl, rfl⟩
end Go.Proofs.Ytajfcnaifegonaa.Sl.Nd
/- Nodes in a program: which may be, by the document: the walk. -/
namespace Go.Proofs.Ytajfcnaifegonaa.Sl.Nd
open Go Go.RowKit Go.By
def MyRel (w : World) (its : List NIt) (i : Value) (W : World) : Prop := ∃ k : Nat, k ≤ its.length ∧ i = .int .i64 k ∧ okIts (its.take k) = true ∧ Below w.heap.size w W
def MyRel2 (w : World) (ks : List (List Nat)) (kids : List NKd) (i : Value) (W : World) : Prop := ∃ k : Nat, k ≤ kids.length ∧ i = .int .i64 k ∧ okKs (ks.take k) = true ∧ (kids.take k).all mayKd = true ∧ Below w.heap.size w W
set_option maxRecDepth 100000 in
set_option maxHeartbeats 40000000 in
theorem refMay_leaf {w : World} {v : Value} {n : Nd} {pi pk pd : Option Addr} {ci ck cd : Nat} (h : IsNd w v n pi ci pk ck pd cd) (hlf : n.leaf = true) (hsm : n.ks.length + n.kids.length ≤ 1152921504606846976) :
    Calls Try.prog 73 #[v] w (TruthTold w (mayNd n)) := by
  obtain ⟨X, hX⟩ : ∃ X, X = mayNd n := ⟨_, rfl⟩
  rw [← hX]
  rw [okIts_may hlf] at hX
  have HX := Lib.hid hX
  have hv := h.val
  subst hv
  obtain ⟨W, hW⟩ : ∃ W, W = w.alloc (.cells #[.bool n.leaf, .slice pi n.its.length ci, .slice pk n.ks.length ck, .slice pd n.kids.length cd] 93) := ⟨_, rfl⟩
  have hb : Below w.heap.size w W := by rw [hW]; exact (Below.refl w.heap.size w).alloc (Nat.le_refl _) _
  have hx : NdAt W w.heap.size n pi ci pk ck pd cd := by rw [hW]; exact NdAt.new ..
  have HI := Lib.hid (h.its.below hb)
  have HB := Lib.hid hb; have HW := Lib.hid hW; have HNA := Lib.hid hx
  obtain ⟨n0, n1, n2, n3⟩ := hx.cells
  have hl1 := h.its.le; have hl2 := h.its.most; have hl3 := h.ks.le; have hl4 := h.ks.most; have hl5 := h.kids.le; have hl6 := h.kids.most
  unfold maxLen at hl2 hl4 hl6
  obtain ⟨K1, hK1⟩ : ∃ x, x = n.ks.length := ⟨_, rfl⟩
  obtain ⟨K2, hK2⟩ : ∃ x, x = n.kids.length := ⟨_, rfl⟩
  obtain ⟨L, hL⟩ : ∃ x, x = n.its.length := ⟨_, rfl⟩
  have HL := Lib.hid hL
  have HXN : Hid (K1 ≠ 0 ∨ K2 ≠ 0 ∨ L < 1 ∨ 8 < L → X = false) := fun hq => by
    rw [HX.out]
    by_cases h1 : n.ks = [] ∧ n.kids = []
    · have q1 : K1 = 0 := by rw [hK1, h1.1]; rfl
      have q2 : K2 = 0 := by rw [hK2, h1.2]; rfl
      rw [decide_eq_false (show ¬ (1 ≤ n.its.length ∧ n.its.length ≤ 8) by omega)]
      simp
    · rw [decide_eq_false h1]; rfl
  have HXY : Hid (K1 = 0 → K2 = 0 → 1 ≤ L → L ≤ 8 → X = okIts n.its) := fun q1 q2 q3 q4 => by
    rw [HX.out, decide_eq_true ⟨List.eq_nil_of_length_eq_zero (by omega), List.eq_nil_of_length_eq_zero (by omega)⟩, decide_eq_true (by omega)]
    rfl
  have HF : Hid (∀ W', Below w.heap.size w W' → X = false → TruthTold w X (.returned (.bool false)) W') := fun W' h1 h2 => ⟨by rw [h2], h1⟩
  have HT : Hid (∀ W', Below w.heap.size w W' → X = true → TruthTold w X (.returned (.bool true)) W') := fun W' h1 h2 => ⟨by rw [h2], h1⟩
  rw [hlf] at n0 HW ⊢
  rw [← hL] at n1 HW ⊢
  rw [← hK1] at n2 HW ⊢
  rw [← hK2] at n3 HW ⊢
  have hw12 : wrap64 ((K1 : Int) + (K2 : Int)) = (K1 : Int) + (K2 : Int) := by unfold wrap64; omega
  by_cases h12 : K1 = 0 ∧ K2 = 0
  · obtain ⟨hk1, hk2⟩ := h12
    by_cases hb8 : 1 ≤ L ∧ L ≤ 8
    · have hXE : X = okIts n.its := HXY.out hk1 hk2 hb8.1 hb8.2
      have HXE := Lib.hid hXE
      have q1 : ¬ (L : Int) < 1 := by omega
      have q2 : ¬ (8 : Int) < L := by omega
      have q3 : (L : Int) ≤ 8 := by omega
      subst hk1 hk2
      have H0 : Hid (MyRel W n.its (.int .i64 (0 : Nat)) W) := ⟨0, Nat.zero_le _, rfl, rfl, Below.refl _ _⟩
      clear hsm h hX hW hb hx hl1 hl2 hl3 hl4 hl5 hl6 hK1 hK2 hL hXE hb8
      go_enter Try.func73, Try.ntmps73
      go_wp2
      rw [← HW.out]
      go_loopw [3] (fun i W' => MyRel W n.its i W') (fun i _ => L - (intOf i).toNat)
      case atStart => exact H0.out
      case round =>
        clear H0
        obtain ⟨i, hi, rfl, hok, hB⟩ := hrel
        have hn1 := (hB.block _ HNA.out.lt).trans HNA.out
        have m0 := cells_of hn1 0
        have m1 := cells_of hn1 1
        simp only [List.getElem?_toArray, List.getElem?_cons_zero, List.getElem?_cons_succ] at m0 m1
        rw [← HL.out] at m1
        by_cases hlt : i < L
        · have hil : i < n.its.length := by rw [← HL.out]; exact hlt
          have hii : (i : Int) < L := by omega
          obtain ⟨lb, lo, rfl, hat⟩ := HI.out.some (by omega)
          obtain ⟨cs, hc, va, vb, rfl, ha, hb⟩ := hat i hil
          have HLT := Lib.hid hlt
          have hno : okIts (n.its.take (i + 1)) = false → ∀ wz, Below wr.heap.size wr wz → TruthTold w X (.returned (.bool false)) wz := fun hq wz hz => HF.out wz (HB.out.trans ((hB.trans (hz.mono hB.size)).mono HB.out.size)) (by rw [HXE.out]; exact okIts_no hq)
          have hyes : okIts (n.its.take (i + 1)) = true → ∀ wz, Below wr.heap.size wr wz → MyRel W n.its (.int .i64 (i + 1 : Nat)) wz := fun hq wz hz => ⟨i + 1, hil, rfl, hq, hB.trans (hz.mono hB.size)⟩
          rw [okIts_next hil hok] at hno hyes
          have HK1 : Hid (∀ wz, Below wr.heap.size wr wz → Bytes wz va n.its[i].k) := fun wz hz => (ha.below hB).below hz
          have HMK : Hid (∀ wz, Below wr.heap.size wr wz → _) := fun wz hz => mayKey_any (HK1.out wz hz)
          have hcs : ∀ wz, Below wr.heap.size wr wz → wz.cell? ⟨w.heap.size, 1, none⟩ = some (.slice (some ⟨lb, lo, none⟩) L ci) ∧ wz.cell? ⟨lb, lo + i * 2, none⟩ = some va ∧ wz.cell? ⟨lb, lo + i * 2 + 1, none⟩ = some vb := fun wz hz => by
            have q := ((hc.below hB).below hz).two
            have hn := (hz.block _ (Array.getElem?_eq_some_iff.1 hn1).1).trans hn1
            have q1 := cells_of hn 1
            simp only [List.getElem?_toArray, List.getElem?_cons_zero, List.getElem?_cons_succ] at q1
            rw [← HL.out] at q1
            exact ⟨q1, q.1, q.2⟩
          obtain ⟨qa, ca, rfl, -⟩ := ha.any
          obtain ⟨qb, cb, rfl, -⟩ := hb.any
          obtain ⟨k1, hk1⟩ : ∃ x, x = n.its[i].k := ⟨_, rfl⟩
          obtain ⟨b1, hb1⟩ : ∃ x, x = mayK n.its[i].k := ⟨_, rfl⟩
          obtain ⟨l1, hl1⟩ : ∃ x, x = n.its[i].k.length := ⟨_, rfl⟩
          obtain ⟨l2, hl2⟩ : ∃ x, x = n.its[i].v.length := ⟨_, rfl⟩
          have hl2m : (l2 : Int) ≤ 9223372036854775807 := by have := hb.short; unfold maxLen at this; omega
          rw [← hb1, ← hl1] at HMK
          have HL1 : Hid (l1 = k1.length) := by unfold Hid; rw [hk1, hl1]
          rw [← hk1, ← HL1.out] at HK1
          rw [← hl1, ← hl2] at hcs
          rw [← hb1, ← hl2] at hno hyes
          rw [← hk1] at hno hyes
          have HKS : Hid (∀ c ∈ k1, c < 256) := by unfold Hid; rw [hk1]; exact ha.small
          cases hb1c : b1 with
          | false =>
            rw [hb1c] at HMK hno
            have HNO := Lib.hid (hno rfl)
            have HCS := Lib.hid hcs
            clear hno hyes hcs hk1 hb1 hl1 hl2 ha hb hc hat hB hn1 hok hi hlt hil hb1c
            go_wp2_with fail
            rename_i Kc hKc
            refine wp_region_left (by kernel_rfl)
              [.is (.pointer (some ⟨w.heap.size, 1, none⟩)), .is (.slice (some ⟨lb, lo, none⟩) L ci), .is (.int .i64 (i : Nat)), .is (.pointer (some ⟨lb, lo + i * 2, none⟩)), .is (.pointer (some ⟨lb, lo + i * 2, none⟩)), .is (.slice qa l1 ca), .is (.bool false), .is (.bool true), .is (.bool true), .is undef, .is undef, .is undef, .is undef, .is undef, .is undef, .is undef, .is undef, .is (.bool true), .is (.bool true), .is undef, .is undef, .is undef, .is undef, .is undef, .is undef, .is undef, .is undef, .is undef, .is undef, .is undef, .is undef, .is undef, .is undef, .is undef, .is undef, .is undef, .is undef, .is undef, .is undef, .is (.bool true)]
              [[],[0],[],[1,2],[3],[4],[5],[6],[7],[8],[8,9],[8],[8,10,11],[8,12],[8,13],[8,14],[8,15],[8,16],[17],[18],[18,19],[18,20],[21],[21,22],[21],[21,23,24],[21,25],[21,26],[21,27],[21],[21,29],[21],[21,31],[21,30,32],[21,33],[21,34],[21,35],[21,28,36],[18,21,37],[18,38]] (by kernel_rfl) (by rfl) ?_ ?_
            · repeat' (first | exact LeftOps.nil | refine LeftOps.cons ?_ ?_)
              all_goals (intro wz hwz; clear hKc; try ((repeat (refine withLeft_is rfl rfl ?_)); (with_reducible refine withLeft_nil ?_); (try simp only [Act.put, arr0, arr1, arr2]); (try first | refine lft_run rfl rfl ?_ | refine lft_want rfl rfl rfl rfl ?_)))
              · unfold LftRun; go_wp2; exact lend
              · obtain ⟨n1, e0, e1⟩ := HCS.out wz hwz; unfold LftRun; go_wp2; exact lend
              · exact lmv
              · unfold LftRun; go_wp2; exact lend
              · unfold LftRun; go_wp2; exact lend
              · obtain ⟨n1, e0, e1⟩ := HCS.out wz hwz; unfold LftRun; go_wp2; exact lend
              · unfold LftRun; go_wp2_with fail; refine (HMK.out wz hwz).mono ?_; rintro e wq ⟨rfl, rfl⟩; go_wp2; exact lend
              · unfold LftRun; go_wp2; exact lend
              · exact lmv
              · exact lsk
              · exact lsk
              · exact lsk
              · exact lsk
              · exact lsk
              · exact lsk
              · exact lsk
              · exact lsk
              · exact lpk
              · exact lmv
              · exact lsk
              · exact lsk
              · exact lsk
              · exact lsk
              · exact lsk
              · exact lsk
              · exact lsk
              · exact lsk
              · exact lsk
              · exact lsk
              · exact lsk
              · exact lsk
              · exact lsk
              · exact lsk
              · exact lsk
              · exact lsk
              · exact lsk
              · exact lsk
              · exact lsk
              · exact lsk
              · exact lpk
            intro wz hwz
            refine le8 (le8 (le8 (le8 (le8 (LeftEnd.nil ?_)))))
            simp only [Act.put, arr0, arr1, arr2]
            refine hKc _ _ ?_
            clear hKc Kc
            go_wp2
            go_ret
            exact HNO.out wz hwz
          | true =>
            rw [hb1c, Bool.true_and] at hno hyes
            rw [hb1c] at HMK
            by_cases h120 : l2 ≤ 120
            · have q5 : ¬ (120 : Int) < l2 := by omega
              have q8 : decide (120 < l2) = false := decide_eq_false (by omega)
              have q9 : decide ((120 : Int) < l2) = false := decide_eq_false (by omega)
              rw [decide_eq_true h120, Bool.and_true] at hno hyes
              by_cases hi0 : i = 0
              · have q6 : ¬ (0 : Int) < i := by omega
                have q7 : decide (0 < i) = false := decide_eq_false (by omega)
                rw [decide_eq_true hi0] at hyes
                have HNX := Lib.hid (hyes rfl)
                have HCS := Lib.hid hcs
                clear hno hyes hcs hk1 hb1 hl1 hl2 ha hb hc hat hB hn1 hok hi hlt hil hb1c h120 hi0
                go_wp2_with fail
                rename_i Kc hKc
                refine wp_region_left (by kernel_rfl)
                  [.is (.pointer (some ⟨w.heap.size, 1, none⟩)), .is (.slice (some ⟨lb, lo, none⟩) L ci), .is (.int .i64 (i : Nat)), .is (.pointer (some ⟨lb, lo + i * 2, none⟩)), .is (.pointer (some ⟨lb, lo + i * 2, none⟩)), .is (.slice qa l1 ca), .is (.bool true), .is (.bool false), .is (.bool false), .is (.pointer (some ⟨w.heap.size, 1, none⟩)), .is (.slice (some ⟨lb, lo, none⟩) L ci), .is (.int .i64 (i : Nat)), .is (.pointer (some ⟨lb, lo + i * 2, none⟩)), .is (.pointer (some ⟨lb, lo + i * 2 + 1, none⟩)), .is (.slice qb l2 cb), .is (.int .i64 (l2 : Nat)), .is (.bool false), .is (.bool false), .is (.bool false), .is (.int .i64 (i : Nat)), .is (.bool false), .is (.bool false), .is undef, .is undef, .is undef, .is undef, .is undef, .is undef, .is undef, .is undef, .is undef, .is undef, .is undef, .is undef, .is undef, .is undef, .is undef, .is undef, .is (.bool false), .is (.bool false)]
                  [[],[0],[],[1,2],[3],[4],[5],[6],[7],[8],[8,9],[8],[8,10,11],[8,12],[8,13],[8,14],[8,15],[8,16],[17],[18],[18,19],[18,20],[21],[21,22],[21],[21,23,24],[21,25],[21,26],[21,27],[21],[21,29],[21],[21,31],[21,30,32],[21,33],[21,34],[21,35],[21,28,36],[18,21,37],[18,38]] (by kernel_rfl) (by rfl) ?_ ?_
                · repeat' (first | exact LeftOps.nil | refine LeftOps.cons ?_ ?_)
                  all_goals (intro wz hwz; clear hKc; try ((repeat (refine withLeft_is rfl rfl ?_)); (with_reducible refine withLeft_nil ?_); (try simp only [Act.put, arr0, arr1, arr2]); (try first | refine lft_run rfl rfl ?_ | refine lft_want rfl rfl rfl rfl ?_)))
                  · unfold LftRun; go_wp2; exact lend
                  · obtain ⟨n1, e0, e1⟩ := HCS.out wz hwz; unfold LftRun; go_wp2; exact lend
                  · exact lmv
                  · unfold LftRun; go_wp2; exact lend
                  · unfold LftRun; go_wp2; exact lend
                  · obtain ⟨n1, e0, e1⟩ := HCS.out wz hwz; unfold LftRun; go_wp2; exact lend
                  · unfold LftRun; go_wp2_with fail; refine (HMK.out wz hwz).mono ?_; rintro e wq ⟨rfl, rfl⟩; go_wp2; exact lend
                  · unfold LftRun; go_wp2; exact lend
                  · exact lmv
                  · unfold LftRun; go_wp2; exact lend
                  · obtain ⟨n1, e0, e1⟩ := HCS.out wz hwz; unfold LftRun; go_wp2; exact lend
                  · exact lmv
                  · unfold LftRun; go_wp2; exact lend
                  · unfold LftRun; go_wp2; exact lend
                  · obtain ⟨n1, e0, e1⟩ := HCS.out wz hwz; unfold LftRun; go_wp2; exact lend
                  · unfold LftRun; go_wp2; exact lend
                  · unfold LftRun; go_wp2; exact lend
                  · exact lpk
                  · exact lmv
                  · exact lmv
                  · unfold LftRun; go_wp2; exact lend
                  · exact lmv
                  · exact lsk
                  · exact lsk
                  · exact lsk
                  · exact lsk
                  · exact lsk
                  · exact lsk
                  · exact lsk
                  · exact lsk
                  · exact lsk
                  · exact lsk
                  · exact lsk
                  · exact lsk
                  · exact lsk
                  · exact lsk
                  · exact lsk
                  · exact lsk
                  · exact lpk
                  · exact lpk
                intro wz hwz
                refine le8 (le8 (le8 (le8 (le8 (LeftEnd.nil ?_)))))
                simp only [Act.put, arr0, arr1, arr2]
                refine hKc _ _ ?_
                clear hKc Kc
                go_wp2
                go_roundw
                case rel => exact HNX.out wz hwz
                case measure => simp [intOf]; have := HLT.out; omega
              · have q6 : (0 : Int) < i := by omega
                have q7 : decide (0 < i) = true := decide_eq_true (by omega)
                obtain ⟨j, hj⟩ : ∃ j, i = j + 1 := ⟨i - 1, by omega⟩
                have hji : (i : Int) - 1 = j := by omega
                have hjL : (j : Int) < L := by omega
                have hjl : j < n.its.length := by omega
                obtain ⟨cs', hc', vc, vd, rfl, ha', hb'⟩ := hat j hjl
                have hp0 : ∀ wz, Below wr.heap.size wr wz → wz.cell? ⟨lb, lo + j * 2, none⟩ = some vc := fun wz hz => (((hc'.below hB).below hz).two).1
                have HK0 : Hid (∀ wz, Below wr.heap.size wr wz → Bytes wz vc n.its[j].k) := fun wz hz => (ha'.below hB).below hz
                have HLQ0 := fun wz => leq_str (a := k1) (b := n.its[j].k) HKS.out ha'.small wz
                obtain ⟨qp, cp, rfl, -⟩ := ha'.any
                obtain ⟨k0, hk0⟩ : ∃ x, x = n.its[j].k := ⟨_, rfl⟩
                obtain ⟨l3, hl3⟩ : ∃ x, x = n.its[j].k.length := ⟨_, rfl⟩
                have hkk : n.its[i - 1].k = k0 := by rw [hk0]; congr 2; omega
                rw [decide_eq_false hi0, Bool.false_or, hkk] at hno hyes
                rw [← hl3] at hp0
                have HL3 : Hid (l3 = k0.length) := by unfold Hid; rw [hk0, hl3]
                rw [← hk0, ← HL3.out] at HK0
                rw [← hk0] at HLQ0
                have hcs4 : ∀ wz, Below wr.heap.size wr wz → wz.cell? ⟨w.heap.size, 1, none⟩ = some (.slice (some ⟨lb, lo, none⟩) L ci) ∧ wz.cell? ⟨lb, lo + i * 2, none⟩ = some (.slice qa l1 ca) ∧ wz.cell? ⟨lb, lo + i * 2 + 1, none⟩ = some (.slice qb l2 cb) ∧ wz.cell? ⟨lb, lo + j * 2, none⟩ = some (.slice qp l3 cp) := fun wz hz => ⟨(hcs wz hz).1, (hcs wz hz).2.1, (hcs wz hz).2.2, hp0 wz hz⟩
                have HCS := Lib.hid hcs4
                cases hls : lessN k0 k1 with
                | true =>
                  rw [hls] at hyes HLQ0
                  have HLQ := Lib.hid HLQ0
                  have HNX := Lib.hid (hyes rfl)
                  clear hno hyes hcs hcs4 hp0 HLQ0 hk0 hl3 hkk hk1 hb1 hl1 hl2 ha hb hc hat ha' hb' hc' hB hn1 hok hi hlt hil hb1c h120 hi0 hls hj hjl
                  go_wp2_with fail
                  rename_i Kc hKc
                  refine wp_region_left (by kernel_rfl)
                    [.is (.pointer (some ⟨w.heap.size, 1, none⟩)), .is (.slice (some ⟨lb, lo, none⟩) L ci), .is (.int .i64 (i : Nat)), .is (.pointer (some ⟨lb, lo + i * 2, none⟩)), .is (.pointer (some ⟨lb, lo + i * 2, none⟩)), .is (.slice qa l1 ca), .is (.bool true), .is (.bool false), .is (.bool false), .is (.pointer (some ⟨w.heap.size, 1, none⟩)), .is (.slice (some ⟨lb, lo, none⟩) L ci), .is (.int .i64 (i : Nat)), .is (.pointer (some ⟨lb, lo + i * 2, none⟩)), .is (.pointer (some ⟨lb, lo + i * 2 + 1, none⟩)), .is (.slice qb l2 cb), .is (.int .i64 (l2 : Nat)), .is (.bool false), .is (.bool false), .is (.bool false), .is (.int .i64 (i : Nat)), .is (.bool true), .is (.bool true), .is (.pointer (some ⟨w.heap.size, 1, none⟩)), .is (.slice (some ⟨lb, lo, none⟩) L ci), .is (.int .i64 (i : Nat)), .is (.pointer (some ⟨lb, lo + i * 2, none⟩)), .is (.pointer (some ⟨lb, lo + i * 2, none⟩)), .is (.slice qa l1 ca), .is (.string (strOf k1)), .is (.pointer (some ⟨w.heap.size, 1, none⟩)), .is (.slice (some ⟨lb, lo, none⟩) L ci), .is (.int .i64 (i : Nat)), .is (.int .i64 (j : Nat)), .is (.pointer (some ⟨lb, lo + j * 2, none⟩)), .is (.pointer (some ⟨lb, lo + j * 2, none⟩)), .is (.slice qp l3 cp), .is (.string (strOf k0)), .is (.bool false), .is (.bool false), .is (.bool false)]
                    [[],[0],[],[1,2],[3],[4],[5],[6],[7],[8],[8,9],[8],[8,10,11],[8,12],[8,13],[8,14],[8,15],[8,16],[17],[18],[18,19],[18,20],[21],[21,22],[21],[21,23,24],[21,25],[21,26],[21,27],[21],[21,29],[21],[21,31],[21,30,32],[21,33],[21,34],[21,35],[21,28,36],[18,21,37],[18,38]] (by kernel_rfl) (by rfl) ?_ ?_
                  · repeat' (first | exact LeftOps.nil | refine LeftOps.cons ?_ ?_)
                    all_goals (intro wz hwz; clear hKc; try ((repeat (refine withLeft_is rfl rfl ?_)); (with_reducible refine withLeft_nil ?_); (try simp only [Act.put, arr0, arr1, arr2]); (try first | refine lft_run rfl rfl ?_ | refine lft_want rfl rfl rfl rfl ?_)))
                    · unfold LftRun; go_wp2; exact lend
                    · obtain ⟨n1, e0, e1, p0⟩ := HCS.out wz hwz; unfold LftRun; go_wp2; exact lend
                    · exact lmv
                    · unfold LftRun; go_wp2; exact lend
                    · unfold LftRun; go_wp2; exact lend
                    · obtain ⟨n1, e0, e1, p0⟩ := HCS.out wz hwz; unfold LftRun; go_wp2; exact lend
                    · unfold LftRun; go_wp2_with fail; refine (HMK.out wz hwz).mono ?_; rintro e wq ⟨rfl, rfl⟩; go_wp2; exact lend
                    · unfold LftRun; go_wp2; exact lend
                    · exact lmv
                    · unfold LftRun; go_wp2; exact lend
                    · obtain ⟨n1, e0, e1, p0⟩ := HCS.out wz hwz; unfold LftRun; go_wp2; exact lend
                    · exact lmv
                    · unfold LftRun; go_wp2; exact lend
                    · unfold LftRun; go_wp2; exact lend
                    · obtain ⟨n1, e0, e1, p0⟩ := HCS.out wz hwz; unfold LftRun; go_wp2; exact lend
                    · unfold LftRun; go_wp2; exact lend
                    · unfold LftRun; go_wp2; exact lend
                    · exact lpk
                    · exact lmv
                    · exact lmv
                    · unfold LftRun; go_wp2; exact lend
                    · exact lmv
                    · unfold LftRun; go_wp2; exact lend
                    · obtain ⟨n1, e0, e1, p0⟩ := HCS.out wz hwz; unfold LftRun; go_wp2; exact lend
                    · exact lmv
                    · unfold LftRun; go_wp2; exact lend
                    · unfold LftRun; go_wp2; exact lend
                    · obtain ⟨n1, e0, e1, p0⟩ := HCS.out wz hwz; unfold LftRun; go_wp2; exact lend
                    · have hcv := (HK1.out wz hwz).toString (P := Try.prog) byT (d := 9) (by kernel_rfl); unfold LftRun; go_wp2; exact lend
                    · unfold LftRun; go_wp2; exact lend
                    · obtain ⟨n1, e0, e1, p0⟩ := HCS.out wz hwz; unfold LftRun; go_wp2; exact lend
                    · exact lmv
                    · unfold LftRun; go_wp2; exact lend
                    · unfold LftRun; go_wp2; exact lend
                    · unfold LftRun; go_wp2; exact lend
                    · obtain ⟨n1, e0, e1, p0⟩ := HCS.out wz hwz; unfold LftRun; go_wp2; exact lend
                    · have hcv := (HK0.out wz hwz).toString (P := Try.prog) byT (d := 9) (by kernel_rfl); unfold LftRun; go_wp2; exact lend
                    · have hlq := HLQ.out wz; unfold LftRun; go_wp2; exact lend
                    · exact lpk
                    · exact lpk
                  intro wz hwz
                  refine le8 (le8 (le8 (le8 (le8 (LeftEnd.nil ?_)))))
                  simp only [Act.put, arr0, arr1, arr2]
                  refine hKc _ _ ?_
                  clear hKc Kc
                  go_wp2
                  go_roundw
                  case rel => exact HNX.out wz hwz
                  case measure => simp [intOf]; have := HLT.out; omega
                | false =>
                  rw [hls] at hno HLQ0
                  have HLQ := Lib.hid HLQ0
                  have HNO := Lib.hid (hno rfl)
                  clear hno hyes hcs hcs4 hp0 HLQ0 hk0 hl3 hkk hk1 hb1 hl1 hl2 ha hb hc hat ha' hb' hc' hB hn1 hok hi hlt hil hb1c h120 hi0 hls hj hjl
                  go_wp2_with fail
                  rename_i Kc hKc
                  refine wp_region_left (by kernel_rfl)
                    [.is (.pointer (some ⟨w.heap.size, 1, none⟩)), .is (.slice (some ⟨lb, lo, none⟩) L ci), .is (.int .i64 (i : Nat)), .is (.pointer (some ⟨lb, lo + i * 2, none⟩)), .is (.pointer (some ⟨lb, lo + i * 2, none⟩)), .is (.slice qa l1 ca), .is (.bool true), .is (.bool false), .is (.bool false), .is (.pointer (some ⟨w.heap.size, 1, none⟩)), .is (.slice (some ⟨lb, lo, none⟩) L ci), .is (.int .i64 (i : Nat)), .is (.pointer (some ⟨lb, lo + i * 2, none⟩)), .is (.pointer (some ⟨lb, lo + i * 2 + 1, none⟩)), .is (.slice qb l2 cb), .is (.int .i64 (l2 : Nat)), .is (.bool false), .is (.bool false), .is (.bool false), .is (.int .i64 (i : Nat)), .is (.bool true), .is (.bool true), .is (.pointer (some ⟨w.heap.size, 1, none⟩)), .is (.slice (some ⟨lb, lo, none⟩) L ci), .is (.int .i64 (i : Nat)), .is (.pointer (some ⟨lb, lo + i * 2, none⟩)), .is (.pointer (some ⟨lb, lo + i * 2, none⟩)), .is (.slice qa l1 ca), .is (.string (strOf k1)), .is (.pointer (some ⟨w.heap.size, 1, none⟩)), .is (.slice (some ⟨lb, lo, none⟩) L ci), .is (.int .i64 (i : Nat)), .is (.int .i64 (j : Nat)), .is (.pointer (some ⟨lb, lo + j * 2, none⟩)), .is (.pointer (some ⟨lb, lo + j * 2, none⟩)), .is (.slice qp l3 cp), .is (.string (strOf k0)), .is (.bool true), .is (.bool true), .is (.bool true)]
                    [[],[0],[],[1,2],[3],[4],[5],[6],[7],[8],[8,9],[8],[8,10,11],[8,12],[8,13],[8,14],[8,15],[8,16],[17],[18],[18,19],[18,20],[21],[21,22],[21],[21,23,24],[21,25],[21,26],[21,27],[21],[21,29],[21],[21,31],[21,30,32],[21,33],[21,34],[21,35],[21,28,36],[18,21,37],[18,38]] (by kernel_rfl) (by rfl) ?_ ?_
                  · repeat' (first | exact LeftOps.nil | refine LeftOps.cons ?_ ?_)
                    all_goals (intro wz hwz; clear hKc; try ((repeat (refine withLeft_is rfl rfl ?_)); (with_reducible refine withLeft_nil ?_); (try simp only [Act.put, arr0, arr1, arr2]); (try first | refine lft_run rfl rfl ?_ | refine lft_want rfl rfl rfl rfl ?_)))
                    · unfold LftRun; go_wp2; exact lend
                    · obtain ⟨n1, e0, e1, p0⟩ := HCS.out wz hwz; unfold LftRun; go_wp2; exact lend
                    · exact lmv
                    · unfold LftRun; go_wp2; exact lend
                    · unfold LftRun; go_wp2; exact lend
                    · obtain ⟨n1, e0, e1, p0⟩ := HCS.out wz hwz; unfold LftRun; go_wp2; exact lend
                    · unfold LftRun; go_wp2_with fail; refine (HMK.out wz hwz).mono ?_; rintro e wq ⟨rfl, rfl⟩; go_wp2; exact lend
                    · unfold LftRun; go_wp2; exact lend
                    · exact lmv
                    · unfold LftRun; go_wp2; exact lend
                    · obtain ⟨n1, e0, e1, p0⟩ := HCS.out wz hwz; unfold LftRun; go_wp2; exact lend
                    · exact lmv
                    · unfold LftRun; go_wp2; exact lend
                    · unfold LftRun; go_wp2; exact lend
                    · obtain ⟨n1, e0, e1, p0⟩ := HCS.out wz hwz; unfold LftRun; go_wp2; exact lend
                    · unfold LftRun; go_wp2; exact lend
                    · unfold LftRun; go_wp2; exact lend
                    · exact lpk
                    · exact lmv
                    · exact lmv
                    · unfold LftRun; go_wp2; exact lend
                    · exact lmv
                    · unfold LftRun; go_wp2; exact lend
                    · obtain ⟨n1, e0, e1, p0⟩ := HCS.out wz hwz; unfold LftRun; go_wp2; exact lend
                    · exact lmv
                    · unfold LftRun; go_wp2; exact lend
                    · unfold LftRun; go_wp2; exact lend
                    · obtain ⟨n1, e0, e1, p0⟩ := HCS.out wz hwz; unfold LftRun; go_wp2; exact lend
                    · have hcv := (HK1.out wz hwz).toString (P := Try.prog) byT (d := 9) (by kernel_rfl); unfold LftRun; go_wp2; exact lend
                    · unfold LftRun; go_wp2; exact lend
                    · obtain ⟨n1, e0, e1, p0⟩ := HCS.out wz hwz; unfold LftRun; go_wp2; exact lend
                    · exact lmv
                    · unfold LftRun; go_wp2; exact lend
                    · unfold LftRun; go_wp2; exact lend
                    · unfold LftRun; go_wp2; exact lend
                    · obtain ⟨n1, e0, e1, p0⟩ := HCS.out wz hwz; unfold LftRun; go_wp2; exact lend
                    · have hcv := (HK0.out wz hwz).toString (P := Try.prog) byT (d := 9) (by kernel_rfl); unfold LftRun; go_wp2; exact lend
                    · have hlq := HLQ.out wz; unfold LftRun; go_wp2; exact lend
                    · exact lpk
                    · exact lpk
                  intro wz hwz
                  refine le8 (le8 (le8 (le8 (le8 (LeftEnd.nil ?_)))))
                  simp only [Act.put, arr0, arr1, arr2]
                  refine hKc _ _ ?_
                  clear hKc Kc
                  go_wp2
                  go_ret
                  exact HNO.out wz hwz
            · have q5 : (120 : Int) < l2 := by omega
              have q9 : decide ((120 : Int) < l2) = true := decide_eq_true (by omega)
              rw [decide_eq_false h120, Bool.and_false] at hno
              have HNO := Lib.hid (hno rfl)
              have HCS := Lib.hid hcs
              clear hno hyes hcs hk1 hb1 hl1 hl2 ha hb hc hat hB hn1 hok hi hlt hil hb1c h120
              go_wp2_with fail
              rename_i Kc hKc
              refine wp_region_left (by kernel_rfl)
                [.is (.pointer (some ⟨w.heap.size, 1, none⟩)), .is (.slice (some ⟨lb, lo, none⟩) L ci), .is (.int .i64 (i : Nat)), .is (.pointer (some ⟨lb, lo + i * 2, none⟩)), .is (.pointer (some ⟨lb, lo + i * 2, none⟩)), .is (.slice qa l1 ca), .is (.bool true), .is (.bool false), .is (.bool false), .is (.pointer (some ⟨w.heap.size, 1, none⟩)), .is (.slice (some ⟨lb, lo, none⟩) L ci), .is (.int .i64 (i : Nat)), .is (.pointer (some ⟨lb, lo + i * 2, none⟩)), .is (.pointer (some ⟨lb, lo + i * 2 + 1, none⟩)), .is (.slice qb l2 cb), .is (.int .i64 (l2 : Nat)), .is (.bool true), .is (.bool true), .is (.bool true), .is undef, .is undef, .is undef, .is undef, .is undef, .is undef, .is undef, .is undef, .is undef, .is undef, .is undef, .is undef, .is undef, .is undef, .is undef, .is undef, .is undef, .is undef, .is undef, .is undef, .is (.bool true)]
                [[],[0],[],[1,2],[3],[4],[5],[6],[7],[8],[8,9],[8],[8,10,11],[8,12],[8,13],[8,14],[8,15],[8,16],[17],[18],[18,19],[18,20],[21],[21,22],[21],[21,23,24],[21,25],[21,26],[21,27],[21],[21,29],[21],[21,31],[21,30,32],[21,33],[21,34],[21,35],[21,28,36],[18,21,37],[18,38]] (by kernel_rfl) (by rfl) ?_ ?_
              · repeat' (first | exact LeftOps.nil | refine LeftOps.cons ?_ ?_)
                all_goals (intro wz hwz; clear hKc; try ((repeat (refine withLeft_is rfl rfl ?_)); (with_reducible refine withLeft_nil ?_); (try simp only [Act.put, arr0, arr1, arr2]); (try first | refine lft_run rfl rfl ?_ | refine lft_want rfl rfl rfl rfl ?_)))
                · unfold LftRun; go_wp2; exact lend
                · obtain ⟨n1, e0, e1⟩ := HCS.out wz hwz; unfold LftRun; go_wp2; exact lend
                · exact lmv
                · unfold LftRun; go_wp2; exact lend
                · unfold LftRun; go_wp2; exact lend
                · obtain ⟨n1, e0, e1⟩ := HCS.out wz hwz; unfold LftRun; go_wp2; exact lend
                · unfold LftRun; go_wp2_with fail; refine (HMK.out wz hwz).mono ?_; rintro e wq ⟨rfl, rfl⟩; go_wp2; exact lend
                · unfold LftRun; go_wp2; exact lend
                · exact lmv
                · unfold LftRun; go_wp2; exact lend
                · obtain ⟨n1, e0, e1⟩ := HCS.out wz hwz; unfold LftRun; go_wp2; exact lend
                · exact lmv
                · unfold LftRun; go_wp2; exact lend
                · unfold LftRun; go_wp2; exact lend
                · obtain ⟨n1, e0, e1⟩ := HCS.out wz hwz; unfold LftRun; go_wp2; exact lend
                · unfold LftRun; go_wp2; exact lend
                · unfold LftRun; go_wp2; exact lend
                · exact lpk
                · exact lmv
                · exact lsk
                · exact lsk
                · exact lsk
                · exact lsk
                · exact lsk
                · exact lsk
                · exact lsk
                · exact lsk
                · exact lsk
                · exact lsk
                · exact lsk
                · exact lsk
                · exact lsk
                · exact lsk
                · exact lsk
                · exact lsk
                · exact lsk
                · exact lsk
                · exact lsk
                · exact lsk
                · exact lpk
              intro wz hwz
              refine le8 (le8 (le8 (le8 (le8 (LeftEnd.nil ?_)))))
              simp only [Act.put, arr0, arr1, arr2]
              refine hKc _ _ ?_
              clear hKc Kc
              go_wp2
              go_ret
              exact HNO.out wz hwz
        · have hiL : i = L := by have := HL.out; omega
          have hXT : X = true := by rw [HXE.out]; rw [List.take_of_length_le (by rw [← HL.out]; omega)] at hok; exact hok
          have HFIN := Lib.hid (HT.out wr (HB.out.trans (hB.mono HB.out.size)) hXT)
          subst hiL
          clear hok hB hXT hlt hi hn1
          go_wp2
          go_ret
          exact HFIN.out
    · have hXf := HXN.out (.inr (.inr (by omega)))
      have HFIN := Lib.hid (HF.out W HB.out hXf)
      have hLi : (L : Int) < 1 ∨ ¬ (L : Int) < 1 := by omega
      subst hk1 hk2
      have q9 : (L : Int) ≤ 9223372036854775807 := by omega
      by_cases hL1 : L < 1
      · have q1 : (L : Int) < 1 := by omega
        clear hsm h hX hW hb hx hl1 hl2 hl3 hl4 hl5 hl6 hK1 hK2 hL hXf hb8 hLi
        go_enter Try.func73, Try.ntmps73
        go_wp2
        rw [← HW.out]
        go_ret
        exact HFIN.out
      · have q1 : ¬ (L : Int) < 1 := by omega
        have q2 : (8 : Int) < L := by omega
        clear hsm h hX hW hb hx hl1 hl2 hl3 hl4 hl5 hl6 hK1 hK2 hL hXf hb8 hLi
        go_enter Try.func73, Try.ntmps73
        go_wp2
        rw [← HW.out]
        go_ret
        exact HFIN.out
  · have hXf := HXN.out (by omega)
    have HFIN := Lib.hid (HF.out W HB.out hXf)
    have hs : (0 : Int) < (K1 : Int) + (K2 : Int) := by omega
    clear hsm h hX hW hb hx hl1 hl2 hl3 hl4 hl5 hl6 hK1 hK2 hL hXf h12
    go_enter Try.func73, Try.ntmps73
    go_wp2
    rw [← HW.out]
    go_ret
    exact HFIN.out
end Go.Proofs.Ytajfcnaifegonaa.Sl.Nd
/- Nodes in a program: which may be, by the document: the walk, on. -/
namespace Go.Proofs.Ytajfcnaifegonaa.Sl.Nd
open Go Go.RowKit Go.By
set_option maxRecDepth 100000 in
set_option maxHeartbeats 40000000 in
theorem refMay_inner {w : World} {v : Value} {n : Nd} {pi pk pd : Option Addr} {ci ck cd : Nat} (h : IsNd w v n pi ci pk ck pd cd) (hlf : n.leaf = false) :
    Calls Try.prog 73 #[v] w (TruthTold w (mayNd n)) := by
  obtain ⟨X, hX⟩ : ∃ X, X = mayNd n := ⟨_, rfl⟩
  rw [← hX]
  rw [okIn_may hlf] at hX
  have HX := Lib.hid hX
  have hv := h.val
  subst hv
  obtain ⟨W, hW⟩ : ∃ W, W = w.alloc (.cells #[.bool n.leaf, .slice pi n.its.length ci, .slice pk n.ks.length ck, .slice pd n.kids.length cd] 93) := ⟨_, rfl⟩
  have hb : Below w.heap.size w W := by rw [hW]; exact (Below.refl w.heap.size w).alloc (Nat.le_refl _) _
  have hx : NdAt W w.heap.size n pi ci pk ck pd cd := by rw [hW]; exact NdAt.new ..
  have HI := Lib.hid (h.ks.below hb); have HQ := Lib.hid (h.kids.below hb)
  have HB := Lib.hid hb; have HW := Lib.hid hW; have HNA := Lib.hid hx
  obtain ⟨n0, n1, n2, n3⟩ := hx.cells
  have hl1 := h.its.le; have hl2 := h.its.most; have hl3 := h.ks.le; have hl4 := h.ks.most; have hl5 := h.kids.le; have hl6 := h.kids.most
  unfold maxLen at hl2 hl4 hl6
  obtain ⟨K0, hK0⟩ : ∃ x, x = n.its.length := ⟨_, rfl⟩
  obtain ⟨K1, hK1⟩ : ∃ x, x = n.ks.length := ⟨_, rfl⟩
  obtain ⟨L, hL⟩ : ∃ x, x = n.kids.length := ⟨_, rfl⟩
  have HL := Lib.hid hL
  have HLK := Lib.hid hK1
  have HXN : Hid (K0 ≠ 0 ∨ L < 2 ∨ 8 < L ∨ K1 ≠ L → X = false) := fun hq => by
    rw [HX.out]
    by_cases h1 : n.its = []
    · have q1 : K0 = 0 := by rw [hK0, h1]; rfl
      by_cases h2 : 2 ≤ n.kids.length ∧ n.kids.length ≤ 8
      · rw [decide_eq_false (show ¬ n.ks.length = n.kids.length by omega)]; simp
      · rw [decide_eq_false h2]; simp
    · rw [decide_eq_false h1]; rfl
  have HXY : Hid (K0 = 0 → 2 ≤ L → L ≤ 8 → K1 = L → X = (okKs n.ks && n.kids.all mayKd)) := fun q1 q2 q3 q4 => by
    rw [HX.out, decide_eq_true (List.eq_nil_of_length_eq_zero (by omega)), decide_eq_true (by omega), decide_eq_true (show n.ks.length = n.kids.length by omega)]
    rfl
  have HF : Hid (∀ W', Below w.heap.size w W' → X = false → TruthTold w X (.returned (.bool false)) W') := fun W' h1 h2 => ⟨by rw [h2], h1⟩
  have HT : Hid (∀ W', Below w.heap.size w W' → X = true → TruthTold w X (.returned (.bool true)) W') := fun W' h1 h2 => ⟨by rw [h2], h1⟩
  rw [hlf] at n0 HW ⊢
  rw [← hK0] at n1 HW ⊢
  rw [← hK1] at n2 HW ⊢
  rw [← hL] at n3 HW ⊢
  have q90 : (K0 : Int) ≤ 9223372036854775807 := by omega
  have q91 : (K1 : Int) ≤ 9223372036854775807 := by omega
  have q92 : (L : Int) ≤ 9223372036854775807 := by omega
  by_cases h0 : K0 = 0
  · by_cases hb8 : 2 ≤ L ∧ L ≤ 8
    · have q1 : ¬ (L : Int) < 2 := by omega
      have q2 : ¬ (8 : Int) < L := by omega
      have q3 : (L : Int) ≤ 8 := by omega
      by_cases hkk : K1 = L
      · have hXE := HXY.out h0 hb8.1 hb8.2 hkk
        have HXE := Lib.hid hXE
        subst h0 hkk
        have H0 : Hid (MyRel2 W n.ks n.kids (.int .i64 (0 : Nat)) W) := ⟨0, Nat.zero_le _, rfl, rfl, rfl, Below.refl _ _⟩
        clear h hX hW hb hx hl1 hl2 hl3 hl4 hl5 hl6 hK0 hL hK1 hXE hb8
        go_enter Try.func73, Try.ntmps73
        go_wp2
        rw [← HW.out]
        go_loopw [4] (fun i W' => MyRel2 W n.ks n.kids i W') (fun i _ => K1 - (intOf i).toNat)
        case atStart => exact H0.out
        case round =>
          clear H0
          obtain ⟨i, hi, rfl, hok, hokd, hB⟩ := hrel
          have hn1 := (hB.block _ HNA.out.lt).trans HNA.out
          have m2 := cells_of hn1 2
          have m3 := cells_of hn1 3
          simp only [List.getElem?_toArray, List.getElem?_cons_zero, List.getElem?_cons_succ] at m2 m3
          rw [← HLK.out] at m2
          rw [← HL.out] at m3
          by_cases hlt : i < K1
          · have hil : i < n.kids.length := by rw [← HL.out]; exact hlt
            have hik : i < n.ks.length := by rw [← HLK.out]; exact hlt
            have hii : (i : Int) < K1 := by omega
            obtain ⟨lb, lo, rfl, hatd⟩ := HQ.out.some (by omega)
            obtain ⟨csd, hcd, rfl, hD1, hD2⟩ := hatd i hil
            obtain ⟨d0, d1⟩ := (hcd.below hB).two
            simp only [KRef] at d0 d1
            obtain ⟨Dk, hDk⟩ : ∃ x, x = n.kids[i] := ⟨_, rfl⟩
            have hkdn := kd_next hil
            rw [hokd, Bool.true_and, ← hDk] at hkdn
            have hkdno : mayKd Dk = false → n.kids.all mayKd = false := fun hq => kd_no hil (by rw [← hDk]; exact hq)
            rw [← hDk] at d0 d1 hD1 hD2
            clear hatd hcd
            obtain ⟨OFF, CT⟩ := Dk
            simp only at d0 d1 hD1 hD2
            obtain ⟨W6, hW6⟩ : ∃ W6, W6 = wr.alloc (.cells #[.int .i64 OFF, .int .u64 (CT : Nat)] 39) := ⟨_, rfl⟩
            have hb6 : Below wr.heap.size wr W6 := by rw [hW6]; exact (Below.refl _ _).alloc (Nat.le_refl _) _
            have hg6 : W6.heap[wr.heap.size]? = some (.cells #[.int .i64 OFF, .int .u64 (CT : Nat)] 39 (0, 0)) := by rw [hW6]; exact heap_alloc_new wr _
            have HW6 := Lib.hid hW6
            obtain ⟨kb, ko, rfl, hat⟩ := HI.out.some (by omega)
            obtain ⟨cs, hc, va, rfl, ha⟩ := hat i hik
            have hup : ∀ wz, Below W6.heap.size W6 wz → Below W.heap.size W wz := fun wz hz => hB.trans ((hb6.trans (hz.mono hb6.size)).mono hB.size)
            have HLT := Lib.hid hlt
            have hno : (okKs (n.ks.take (i + 1)) && mayKd ⟨OFF, CT⟩) = false → ∀ wz, Below W6.heap.size W6 wz → TruthTold w X (.returned (.bool false)) wz := fun hq wz hz => HF.out wz (HB.out.trans ((hup wz hz).mono HB.out.size)) (by
              rw [HXE.out]
              rw [Bool.and_eq_false_iff] at hq
              rcases hq with hq | hq
              · rw [okKs_no hq]; rfl
              · rw [hkdno hq, Bool.and_false])
            have hyes : (okKs (n.ks.take (i + 1)) && mayKd ⟨OFF, CT⟩) = true → ∀ wz, Below W6.heap.size W6 wz → MyRel2 W n.ks n.kids (.int .i64 (i + 1 : Nat)) wz := fun hq wz hz => by
              rw [Bool.and_eq_true] at hq
              exact ⟨i + 1, hil, rfl, hq.1, by rw [hkdn, hq.2], hup wz hz⟩
            rw [okKs_next hik, hok, Bool.true_and] at hno hyes
            have HK1 : Hid (∀ wz, Below W6.heap.size W6 wz → Bytes wz va n.ks[i]) := fun wz hz => ha.below (hup wz hz)
            have HMK : Hid (∀ wz, Below W6.heap.size W6 wz → _) := fun wz hz => mayKey_any (HK1.out wz hz)
            have hcs : ∀ wz, Below W6.heap.size W6 wz → wz.cell? ⟨w.heap.size, 2, none⟩ = some (.slice (some ⟨kb, ko, none⟩) K1 ck) ∧ wz.cell? ⟨kb, ko + i, none⟩ = some va ∧ wz.cell? ⟨wr.heap.size, 0, none⟩ = some (.int .i64 OFF) ∧ wz.cell? ⟨wr.heap.size, 1, none⟩ = some (.int .u64 (CT : Nat)) := fun wz hz => by
              have q := (hc.below (hup wz hz)).one
              simp only [KBytes, Nat.mul_one] at q
              have hn := ((hb6.trans (hz.mono hb6.size)).block _ (Array.getElem?_eq_some_iff.1 hn1).1).trans hn1
              have hg := (hz.block _ (Array.getElem?_eq_some_iff.1 hg6).1).trans hg6
              have q1 := cells_of hn 2
              have q2 := cells_of hg 0
              have q3 := cells_of hg 1
              simp only [List.getElem?_toArray, List.getElem?_cons_zero, List.getElem?_cons_succ] at q1 q2 q3
              rw [← HLK.out] at q1
              exact ⟨q1, q, q2, q3⟩
            obtain ⟨qa, ca, rfl, -⟩ := ha.any
            obtain ⟨k1, hk1⟩ : ∃ x, x = n.ks[i] := ⟨_, rfl⟩
            obtain ⟨b1, hb1⟩ : ∃ x, x = mayK n.ks[i] := ⟨_, rfl⟩
            obtain ⟨l1, hl1⟩ : ∃ x, x = n.ks[i].length := ⟨_, rfl⟩
            rw [← hb1, ← hl1] at HMK
            have HL1 : Hid (l1 = k1.length) := by unfold Hid; rw [hk1, hl1]
            rw [← hk1, ← HL1.out] at HK1
            rw [← hl1] at hcs
            rw [← hb1, ← hk1] at hno hyes
            have HKS : Hid (∀ c ∈ k1, c < 256) := by unfold Hid; rw [hk1]; exact ha.small
            have hmk : mayKd ⟨OFF, CT⟩ = (decide (1 ≤ OFF) && (decide (1 ≤ CT) && decide (CT ≤ 1099511627776))) := rfl
            clear hkdn hkdno hup hg6 hb6 hW6
            cases hb1c : b1 with
            | false =>
              rw [hb1c] at HMK hno
              have HNO := Lib.hid (hno rfl)
              have HCS := Lib.hid hcs
              clear hno hyes hcs hk1 hb1 hl1 ha hc hat hB hn1 hok hokd hi hlt hil hik hb1c hDk hmk hD1 hD2
              go_wp2_with fail
              rw [← HW6.out]
              rename_i Kc hKc
              refine wp_region_left (by kernel_rfl)
                [.is (.pointer (some ⟨w.heap.size, 2, none⟩)), .is (.slice (some ⟨kb, ko, none⟩) K1 ck), .is (.int .i64 (i : Nat)), .is (.pointer (some ⟨kb, ko + i, none⟩)), .is (.slice qa l1 ca), .is (.bool false), .is (.bool true), .is (.bool true), .is undef, .is undef, .is undef, .is undef, .is undef, .is undef, .is undef, .is undef, .is undef, .is undef, .is undef, .is undef, .is undef, .is undef, .is undef, .is undef, .is undef, .is undef, .is (.bool true), .is (.bool true), .is undef, .is undef, .is undef, .is (.bool true), .is (.bool true), .is undef, .is undef, .is undef, .is (.bool true), .is (.bool true), .is undef, .is undef, .is undef, .is (.bool true)]
                [[],[0],[],[1,2],[3],[4],[5],[6],[7],[7,8],[7,9],[10],[10,11],[10],[10,12,13],[10,14],[10,15],[10],[10,17],[10],[10,19],[10,18,20],[10,21],[10,22],[10,16,23],[7,10,24],[7,25],[26],[27],[27,28],[27,29],[27,30],[31],[32],[32,33],[32,34],[32,35],[36],[37],[37,38],[37,39],[37,40]] (by kernel_rfl) (by rfl) ?_ ?_
              · repeat' (first | exact LeftOps.nil | refine LeftOps.cons ?_ ?_)
                all_goals (intro wz hwz; clear hKc; try ((repeat (refine withLeft_is rfl rfl ?_)); (with_reducible refine withLeft_nil ?_); (try simp only [Act.put, arr0, arr1, arr2]); (try first | refine lft_run rfl rfl ?_ | refine lft_want rfl rfl rfl rfl ?_)))
                · unfold LftRun; go_wp2; exact lend
                · obtain ⟨n2, e0, x0, x1⟩ := HCS.out wz hwz; unfold LftRun; go_wp2; exact lend
                · exact lmv
                · unfold LftRun; go_wp2; exact lend
                · obtain ⟨n2, e0, x0, x1⟩ := HCS.out wz hwz; unfold LftRun; go_wp2; exact lend
                · unfold LftRun; go_wp2_with fail; refine (HMK.out wz hwz).mono ?_; rintro e wq ⟨rfl, rfl⟩; go_wp2; exact lend
                · unfold LftRun; go_wp2; exact lend
                · exact lmv
                · exact lsk
                · exact lsk
                · exact lsk
                · exact lsk
                · exact lsk
                · exact lsk
                · exact lsk
                · exact lsk
                · exact lsk
                · exact lsk
                · exact lsk
                · exact lsk
                · exact lsk
                · exact lsk
                · exact lsk
                · exact lsk
                · exact lsk
                · exact lsk
                · exact lpk
                · exact lmv
                · exact lsk
                · exact lsk
                · exact lsk
                · exact lpk
                · exact lmv
                · exact lsk
                · exact lsk
                · exact lsk
                · exact lpk
                · exact lmv
                · exact lsk
                · exact lsk
                · exact lsk
                · exact lpk
              intro wz hwz
              refine le8 (le8 (le8 (le8 (le8 (LeftEnd.is (LeftEnd.is (LeftEnd.nil ?_)))))))
              simp only [Act.put, arr0, arr1, arr2]
              refine hKc _ _ ?_
              clear hKc Kc
              go_wp2
              go_ret
              exact HNO.out wz hwz
            | true =>
              rw [hb1c, Bool.true_and] at hno hyes
              rw [hb1c] at HMK
              by_cases hi0 : i = 0
              · have q6 : ¬ (0 : Int) < i := by omega
                have q7 : decide (0 < i) = false := decide_eq_false (by omega)
                rw [decide_eq_true hi0, Bool.true_or, Bool.true_and] at hno hyes
                rw [hmk] at hno hyes
                by_cases hoff : 1 ≤ OFF
                · have q10 : ¬ OFF < 1 := by omega
                  have q11 : decide (OFF < 1) = false := decide_eq_false q10
                  rw [decide_eq_true hoff, Bool.true_and] at hno hyes
                  by_cases hct0 : 1 ≤ CT
                  · have q12 : ¬ (CT : Int) < 1 := by omega
                    have q13 : decide ((CT : Int) < 1) = false := decide_eq_false q12
                    rw [decide_eq_true hct0, Bool.true_and] at hno hyes
                    by_cases hctg : CT ≤ 1099511627776
                    · have q14 : ¬ (1099511627776 : Int) < (CT : Int) := by omega
                      have q15 : decide ((1099511627776 : Int) < (CT : Int)) = false := decide_eq_false q14
                      rw [decide_eq_true hctg] at hyes
                      have HNX := Lib.hid (hyes rfl)
                      have HCS := Lib.hid hcs
                      clear hno hyes hcs hk1 hb1 hl1 ha hc hat hB hn1 hok hokd hi hlt hil hik hb1c hi0 hDk hmk hoff hct0 hctg hD1 hD2
                      go_wp2_with fail
                      rw [← HW6.out]
                      rename_i Kc hKc
                      refine wp_region_left (by kernel_rfl)
                        [.is (.pointer (some ⟨w.heap.size, 2, none⟩)), .is (.slice (some ⟨kb, ko, none⟩) K1 ck), .is (.int .i64 (i : Nat)), .is (.pointer (some ⟨kb, ko + i, none⟩)), .is (.slice qa l1 ca), .is (.bool true), .is (.bool false), .is (.bool false), .is (.int .i64 (i : Nat)), .is (.bool false), .is (.bool false), .is undef, .is undef, .is undef, .is undef, .is undef, .is undef, .is undef, .is undef, .is undef, .is undef, .is undef, .is undef, .is undef, .is undef, .is (.bool false), .is (.bool false), .is (.bool false), .is (.pointer (some ⟨wr.heap.size, 0, none⟩)), .is (.int .i64 OFF), .is (.bool false), .is (.bool false), .is (.bool false), .is (.pointer (some ⟨wr.heap.size, 1, none⟩)), .is (.int .u64 (CT : Nat)), .is (.bool false), .is (.bool false), .is (.bool false), .is (.pointer (some ⟨wr.heap.size, 1, none⟩)), .is (.int .u64 (CT : Nat)), .is (.bool false), .is (.bool false)]
                        [[],[0],[],[1,2],[3],[4],[5],[6],[7],[7,8],[7,9],[10],[10,11],[10],[10,12,13],[10,14],[10,15],[10],[10,17],[10],[10,19],[10,18,20],[10,21],[10,22],[10,16,23],[7,10,24],[7,25],[26],[27],[27,28],[27,29],[27,30],[31],[32],[32,33],[32,34],[32,35],[36],[37],[37,38],[37,39],[37,40]] (by kernel_rfl) (by rfl) ?_ ?_
                      · repeat' (first | exact LeftOps.nil | refine LeftOps.cons ?_ ?_)
                        all_goals (intro wz hwz; clear hKc; try ((repeat (refine withLeft_is rfl rfl ?_)); (with_reducible refine withLeft_nil ?_); (try simp only [Act.put, arr0, arr1, arr2]); (try first | refine lft_run rfl rfl ?_ | refine lft_want rfl rfl rfl rfl ?_)))
                        · unfold LftRun; go_wp2; exact lend
                        · obtain ⟨n2, e0, x0, x1⟩ := HCS.out wz hwz; unfold LftRun; go_wp2; exact lend
                        · exact lmv
                        · unfold LftRun; go_wp2; exact lend
                        · obtain ⟨n2, e0, x0, x1⟩ := HCS.out wz hwz; unfold LftRun; go_wp2; exact lend
                        · unfold LftRun; go_wp2_with fail; refine (HMK.out wz hwz).mono ?_; rintro e wq ⟨rfl, rfl⟩; go_wp2; exact lend
                        · unfold LftRun; go_wp2; exact lend
                        · exact lmv
                        · exact lmv
                        · unfold LftRun; go_wp2; exact lend
                        · exact lmv
                        · exact lsk
                        · exact lsk
                        · exact lsk
                        · exact lsk
                        · exact lsk
                        · exact lsk
                        · exact lsk
                        · exact lsk
                        · exact lsk
                        · exact lsk
                        · exact lsk
                        · exact lsk
                        · exact lsk
                        · exact lsk
                        · exact lpk
                        · exact lpk
                        · exact lmv
                        · unfold LftRun; go_wp2; exact lend
                        · obtain ⟨n2, e0, x0, x1⟩ := HCS.out wz hwz; unfold LftRun; go_wp2; exact lend
                        · unfold LftRun; go_wp2; exact lend
                        · exact lpk
                        · exact lmv
                        · unfold LftRun; go_wp2; exact lend
                        · obtain ⟨n2, e0, x0, x1⟩ := HCS.out wz hwz; unfold LftRun; go_wp2; exact lend
                        · unfold LftRun; go_wp2; exact lend
                        · exact lpk
                        · exact lmv
                        · unfold LftRun; go_wp2; exact lend
                        · obtain ⟨n2, e0, x0, x1⟩ := HCS.out wz hwz; unfold LftRun; go_wp2; exact lend
                        · unfold LftRun; go_wp2; exact lend
                        · exact lpk
                      intro wz hwz
                      refine le8 (le8 (le8 (le8 (le8 (LeftEnd.is (LeftEnd.is (LeftEnd.nil ?_)))))))
                      simp only [Act.put, arr0, arr1, arr2]
                      refine hKc _ _ ?_
                      clear hKc Kc
                      go_wp2
                      go_roundw
                      case rel => exact HNX.out wz hwz
                      case measure => simp [intOf]; have := HLT.out; omega
                    · have q14 : (1099511627776 : Int) < (CT : Int) := by omega
                      have q15 : decide ((1099511627776 : Int) < (CT : Int)) = true := decide_eq_true q14
                      rw [decide_eq_false hctg] at hno
                      have HNO := Lib.hid (hno rfl)
                      have HCS := Lib.hid hcs
                      clear hno hyes hcs hk1 hb1 hl1 ha hc hat hB hn1 hok hokd hi hlt hil hik hb1c hi0 hDk hmk hoff hct0 hctg hD1 hD2
                      go_wp2_with fail
                      rw [← HW6.out]
                      rename_i Kc hKc
                      refine wp_region_left (by kernel_rfl)
                        [.is (.pointer (some ⟨w.heap.size, 2, none⟩)), .is (.slice (some ⟨kb, ko, none⟩) K1 ck), .is (.int .i64 (i : Nat)), .is (.pointer (some ⟨kb, ko + i, none⟩)), .is (.slice qa l1 ca), .is (.bool true), .is (.bool false), .is (.bool false), .is (.int .i64 (i : Nat)), .is (.bool false), .is (.bool false), .is undef, .is undef, .is undef, .is undef, .is undef, .is undef, .is undef, .is undef, .is undef, .is undef, .is undef, .is undef, .is undef, .is undef, .is (.bool false), .is (.bool false), .is (.bool false), .is (.pointer (some ⟨wr.heap.size, 0, none⟩)), .is (.int .i64 OFF), .is (.bool false), .is (.bool false), .is (.bool false), .is (.pointer (some ⟨wr.heap.size, 1, none⟩)), .is (.int .u64 (CT : Nat)), .is (.bool false), .is (.bool false), .is (.bool false), .is (.pointer (some ⟨wr.heap.size, 1, none⟩)), .is (.int .u64 (CT : Nat)), .is (.bool true), .is (.bool true)]
                        [[],[0],[],[1,2],[3],[4],[5],[6],[7],[7,8],[7,9],[10],[10,11],[10],[10,12,13],[10,14],[10,15],[10],[10,17],[10],[10,19],[10,18,20],[10,21],[10,22],[10,16,23],[7,10,24],[7,25],[26],[27],[27,28],[27,29],[27,30],[31],[32],[32,33],[32,34],[32,35],[36],[37],[37,38],[37,39],[37,40]] (by kernel_rfl) (by rfl) ?_ ?_
                      · repeat' (first | exact LeftOps.nil | refine LeftOps.cons ?_ ?_)
                        all_goals (intro wz hwz; clear hKc; try ((repeat (refine withLeft_is rfl rfl ?_)); (with_reducible refine withLeft_nil ?_); (try simp only [Act.put, arr0, arr1, arr2]); (try first | refine lft_run rfl rfl ?_ | refine lft_want rfl rfl rfl rfl ?_)))
                        · unfold LftRun; go_wp2; exact lend
                        · obtain ⟨n2, e0, x0, x1⟩ := HCS.out wz hwz; unfold LftRun; go_wp2; exact lend
                        · exact lmv
                        · unfold LftRun; go_wp2; exact lend
                        · obtain ⟨n2, e0, x0, x1⟩ := HCS.out wz hwz; unfold LftRun; go_wp2; exact lend
                        · unfold LftRun; go_wp2_with fail; refine (HMK.out wz hwz).mono ?_; rintro e wq ⟨rfl, rfl⟩; go_wp2; exact lend
                        · unfold LftRun; go_wp2; exact lend
                        · exact lmv
                        · exact lmv
                        · unfold LftRun; go_wp2; exact lend
                        · exact lmv
                        · exact lsk
                        · exact lsk
                        · exact lsk
                        · exact lsk
                        · exact lsk
                        · exact lsk
                        · exact lsk
                        · exact lsk
                        · exact lsk
                        · exact lsk
                        · exact lsk
                        · exact lsk
                        · exact lsk
                        · exact lsk
                        · exact lpk
                        · exact lpk
                        · exact lmv
                        · unfold LftRun; go_wp2; exact lend
                        · obtain ⟨n2, e0, x0, x1⟩ := HCS.out wz hwz; unfold LftRun; go_wp2; exact lend
                        · unfold LftRun; go_wp2; exact lend
                        · exact lpk
                        · exact lmv
                        · unfold LftRun; go_wp2; exact lend
                        · obtain ⟨n2, e0, x0, x1⟩ := HCS.out wz hwz; unfold LftRun; go_wp2; exact lend
                        · unfold LftRun; go_wp2; exact lend
                        · exact lpk
                        · exact lmv
                        · unfold LftRun; go_wp2; exact lend
                        · obtain ⟨n2, e0, x0, x1⟩ := HCS.out wz hwz; unfold LftRun; go_wp2; exact lend
                        · unfold LftRun; go_wp2; exact lend
                        · exact lpk
                      intro wz hwz
                      refine le8 (le8 (le8 (le8 (le8 (LeftEnd.is (LeftEnd.is (LeftEnd.nil ?_)))))))
                      simp only [Act.put, arr0, arr1, arr2]
                      refine hKc _ _ ?_
                      clear hKc Kc
                      go_wp2
                      go_ret
                      exact HNO.out wz hwz
                  · have q12 : (CT : Int) < 1 := by omega
                    have q13 : decide ((CT : Int) < 1) = true := decide_eq_true q12
                    rw [decide_eq_false hct0, Bool.false_and] at hno
                    have HNO := Lib.hid (hno rfl)
                    have HCS := Lib.hid hcs
                    clear hno hyes hcs hk1 hb1 hl1 ha hc hat hB hn1 hok hokd hi hlt hil hik hb1c hi0 hDk hmk hoff hct0 hD1 hD2
                    go_wp2_with fail
                    rw [← HW6.out]
                    rename_i Kc hKc
                    refine wp_region_left (by kernel_rfl)
                      [.is (.pointer (some ⟨w.heap.size, 2, none⟩)), .is (.slice (some ⟨kb, ko, none⟩) K1 ck), .is (.int .i64 (i : Nat)), .is (.pointer (some ⟨kb, ko + i, none⟩)), .is (.slice qa l1 ca), .is (.bool true), .is (.bool false), .is (.bool false), .is (.int .i64 (i : Nat)), .is (.bool false), .is (.bool false), .is undef, .is undef, .is undef, .is undef, .is undef, .is undef, .is undef, .is undef, .is undef, .is undef, .is undef, .is undef, .is undef, .is undef, .is (.bool false), .is (.bool false), .is (.bool false), .is (.pointer (some ⟨wr.heap.size, 0, none⟩)), .is (.int .i64 OFF), .is (.bool false), .is (.bool false), .is (.bool false), .is (.pointer (some ⟨wr.heap.size, 1, none⟩)), .is (.int .u64 (CT : Nat)), .is (.bool true), .is (.bool true), .is (.bool true), .is undef, .is undef, .is undef, .is (.bool true)]
                      [[],[0],[],[1,2],[3],[4],[5],[6],[7],[7,8],[7,9],[10],[10,11],[10],[10,12,13],[10,14],[10,15],[10],[10,17],[10],[10,19],[10,18,20],[10,21],[10,22],[10,16,23],[7,10,24],[7,25],[26],[27],[27,28],[27,29],[27,30],[31],[32],[32,33],[32,34],[32,35],[36],[37],[37,38],[37,39],[37,40]] (by kernel_rfl) (by rfl) ?_ ?_
                    · repeat' (first | exact LeftOps.nil | refine LeftOps.cons ?_ ?_)
                      all_goals (intro wz hwz; clear hKc; try ((repeat (refine withLeft_is rfl rfl ?_)); (with_reducible refine withLeft_nil ?_); (try simp only [Act.put, arr0, arr1, arr2]); (try first | refine lft_run rfl rfl ?_ | refine lft_want rfl rfl rfl rfl ?_)))
                      · unfold LftRun; go_wp2; exact lend
                      · obtain ⟨n2, e0, x0, x1⟩ := HCS.out wz hwz; unfold LftRun; go_wp2; exact lend
                      · exact lmv
                      · unfold LftRun; go_wp2; exact lend
                      · obtain ⟨n2, e0, x0, x1⟩ := HCS.out wz hwz; unfold LftRun; go_wp2; exact lend
                      · unfold LftRun; go_wp2_with fail; refine (HMK.out wz hwz).mono ?_; rintro e wq ⟨rfl, rfl⟩; go_wp2; exact lend
                      · unfold LftRun; go_wp2; exact lend
                      · exact lmv
                      · exact lmv
                      · unfold LftRun; go_wp2; exact lend
                      · exact lmv
                      · exact lsk
                      · exact lsk
                      · exact lsk
                      · exact lsk
                      · exact lsk
                      · exact lsk
                      · exact lsk
                      · exact lsk
                      · exact lsk
                      · exact lsk
                      · exact lsk
                      · exact lsk
                      · exact lsk
                      · exact lsk
                      · exact lpk
                      · exact lpk
                      · exact lmv
                      · unfold LftRun; go_wp2; exact lend
                      · obtain ⟨n2, e0, x0, x1⟩ := HCS.out wz hwz; unfold LftRun; go_wp2; exact lend
                      · unfold LftRun; go_wp2; exact lend
                      · exact lpk
                      · exact lmv
                      · unfold LftRun; go_wp2; exact lend
                      · obtain ⟨n2, e0, x0, x1⟩ := HCS.out wz hwz; unfold LftRun; go_wp2; exact lend
                      · unfold LftRun; go_wp2; exact lend
                      · exact lpk
                      · exact lmv
                      · exact lsk
                      · exact lsk
                      · exact lsk
                      · exact lpk
                    intro wz hwz
                    refine le8 (le8 (le8 (le8 (le8 (LeftEnd.is (LeftEnd.is (LeftEnd.nil ?_)))))))
                    simp only [Act.put, arr0, arr1, arr2]
                    refine hKc _ _ ?_
                    clear hKc Kc
                    go_wp2
                    go_ret
                    exact HNO.out wz hwz
                · have q10 : OFF < 1 := by omega
                  have q11 : decide (OFF < 1) = true := decide_eq_true q10
                  rw [decide_eq_false hoff, Bool.false_and] at hno
                  have HNO := Lib.hid (hno rfl)
                  have HCS := Lib.hid hcs
                  clear hno hyes hcs hk1 hb1 hl1 ha hc hat hB hn1 hok hokd hi hlt hil hik hb1c hi0 hDk hmk hoff hD1 hD2
                  go_wp2_with fail
                  rw [← HW6.out]
                  rename_i Kc hKc
                  refine wp_region_left (by kernel_rfl)
                    [.is (.pointer (some ⟨w.heap.size, 2, none⟩)), .is (.slice (some ⟨kb, ko, none⟩) K1 ck), .is (.int .i64 (i : Nat)), .is (.pointer (some ⟨kb, ko + i, none⟩)), .is (.slice qa l1 ca), .is (.bool true), .is (.bool false), .is (.bool false), .is (.int .i64 (i : Nat)), .is (.bool false), .is (.bool false), .is undef, .is undef, .is undef, .is undef, .is undef, .is undef, .is undef, .is undef, .is undef, .is undef, .is undef, .is undef, .is undef, .is undef, .is (.bool false), .is (.bool false), .is (.bool false), .is (.pointer (some ⟨wr.heap.size, 0, none⟩)), .is (.int .i64 OFF), .is (.bool true), .is (.bool true), .is (.bool true), .is undef, .is undef, .is undef, .is (.bool true), .is (.bool true), .is undef, .is undef, .is undef, .is (.bool true)]
                    [[],[0],[],[1,2],[3],[4],[5],[6],[7],[7,8],[7,9],[10],[10,11],[10],[10,12,13],[10,14],[10,15],[10],[10,17],[10],[10,19],[10,18,20],[10,21],[10,22],[10,16,23],[7,10,24],[7,25],[26],[27],[27,28],[27,29],[27,30],[31],[32],[32,33],[32,34],[32,35],[36],[37],[37,38],[37,39],[37,40]] (by kernel_rfl) (by rfl) ?_ ?_
                  · repeat' (first | exact LeftOps.nil | refine LeftOps.cons ?_ ?_)
                    all_goals (intro wz hwz; clear hKc; try ((repeat (refine withLeft_is rfl rfl ?_)); (with_reducible refine withLeft_nil ?_); (try simp only [Act.put, arr0, arr1, arr2]); (try first | refine lft_run rfl rfl ?_ | refine lft_want rfl rfl rfl rfl ?_)))
                    · unfold LftRun; go_wp2; exact lend
                    · obtain ⟨n2, e0, x0, x1⟩ := HCS.out wz hwz; unfold LftRun; go_wp2; exact lend
                    · exact lmv
                    · unfold LftRun; go_wp2; exact lend
                    · obtain ⟨n2, e0, x0, x1⟩ := HCS.out wz hwz; unfold LftRun; go_wp2; exact lend
                    · unfold LftRun; go_wp2_with fail; refine (HMK.out wz hwz).mono ?_; rintro e wq ⟨rfl, rfl⟩; go_wp2; exact lend
                    · unfold LftRun; go_wp2; exact lend
                    · exact lmv
                    · exact lmv
                    · unfold LftRun; go_wp2; exact lend
                    · exact lmv
                    · exact lsk
                    · exact lsk
                    · exact lsk
                    · exact lsk
                    · exact lsk
                    · exact lsk
                    · exact lsk
                    · exact lsk
                    · exact lsk
                    · exact lsk
                    · exact lsk
                    · exact lsk
                    · exact lsk
                    · exact lsk
                    · exact lpk
                    · exact lpk
                    · exact lmv
                    · unfold LftRun; go_wp2; exact lend
                    · obtain ⟨n2, e0, x0, x1⟩ := HCS.out wz hwz; unfold LftRun; go_wp2; exact lend
                    · unfold LftRun; go_wp2; exact lend
                    · exact lpk
                    · exact lmv
                    · exact lsk
                    · exact lsk
                    · exact lsk
                    · exact lpk
                    · exact lmv
                    · exact lsk
                    · exact lsk
                    · exact lsk
                    · exact lpk
                  intro wz hwz
                  refine le8 (le8 (le8 (le8 (le8 (LeftEnd.is (LeftEnd.is (LeftEnd.nil ?_)))))))
                  simp only [Act.put, arr0, arr1, arr2]
                  refine hKc _ _ ?_
                  clear hKc Kc
                  go_wp2
                  go_ret
                  exact HNO.out wz hwz
              · have q6 : (0 : Int) < i := by omega
                have q7 : decide (0 < i) = true := decide_eq_true (by omega)
                obtain ⟨j, hj⟩ : ∃ j, i = j + 1 := ⟨i - 1, by omega⟩
                have hji : (i : Int) - 1 = j := by omega
                have hjL : (j : Int) < K1 := by omega
                have hjl : j < n.ks.length := by omega
                have hjk : True := trivial
                obtain ⟨cs', hc', vc, rfl, ha'⟩ := hat j hjl
                have hBW6 : ∀ wz, Below W6.heap.size W6 wz → Below W.heap.size W wz := fun wz hz => by
                  have hb6 : Below wr.heap.size wr W6 := by rw [HW6.out]; exact (Below.refl _ _).alloc (Nat.le_refl _) _
                  exact hB.trans ((hb6.trans (hz.mono hb6.size)).mono hB.size)
                have hp0 : ∀ wz, Below W6.heap.size W6 wz → wz.cell? ⟨kb, ko + j, none⟩ = some vc := fun wz hz => by
                  have q := (hc'.below (hBW6 wz hz)).one
                  simpa only [KBytes, Nat.mul_one] using q
                have HK0 : Hid (∀ wz, Below W6.heap.size W6 wz → Bytes wz vc n.ks[j]) := fun wz hz => ha'.below (hBW6 wz hz)
                have HLQ0 := fun wz => leq_str (a := k1) (b := n.ks[j]) HKS.out ha'.small wz
                obtain ⟨qp, cp, rfl, -⟩ := ha'.any
                obtain ⟨k0, hk0⟩ : ∃ x, x = n.ks[j] := ⟨_, rfl⟩
                obtain ⟨l3, hl3⟩ : ∃ x, x = n.ks[j].length := ⟨_, rfl⟩
                have hkk : n.ks[i - 1] = k0 := by rw [hk0]; congr 1; omega
                rw [decide_eq_false hi0, Bool.false_or, hkk] at hno hyes
                rw [← hl3] at hp0
                have HL3 : Hid (l3 = k0.length) := by unfold Hid; rw [hk0, hl3]
                rw [← hk0, ← HL3.out] at HK0
                rw [← hk0] at HLQ0
                have hcs5 : ∀ wz, Below W6.heap.size W6 wz → wz.cell? ⟨w.heap.size, 2, none⟩ = some (.slice (some ⟨kb, ko, none⟩) K1 ck) ∧ wz.cell? ⟨kb, ko + i, none⟩ = some (.slice qa l1 ca) ∧ wz.cell? ⟨wr.heap.size, 0, none⟩ = some (.int .i64 OFF) ∧ wz.cell? ⟨wr.heap.size, 1, none⟩ = some (.int .u64 (CT : Nat)) ∧ wz.cell? ⟨kb, ko + j, none⟩ = some (.slice qp l3 cp) := fun wz hz => ⟨(hcs wz hz).1, (hcs wz hz).2.1, (hcs wz hz).2.2.1, (hcs wz hz).2.2.2, hp0 wz hz⟩
                clear hBW6
                cases hls : lessN k0 k1 with
                | true =>
                  rw [hls] at hyes hno HLQ0
                  rw [Bool.true_and] at hyes hno
                  rw [hmk] at hno hyes
                  by_cases hoff : 1 ≤ OFF
                  · have q10 : ¬ OFF < 1 := by omega
                    have q11 : decide (OFF < 1) = false := decide_eq_false q10
                    rw [decide_eq_true hoff, Bool.true_and] at hno hyes
                    by_cases hct0 : 1 ≤ CT
                    · have q12 : ¬ (CT : Int) < 1 := by omega
                      have q13 : decide ((CT : Int) < 1) = false := decide_eq_false q12
                      rw [decide_eq_true hct0, Bool.true_and] at hno hyes
                      by_cases hctg : CT ≤ 1099511627776
                      · have q14 : ¬ (1099511627776 : Int) < (CT : Int) := by omega
                        have q15 : decide ((1099511627776 : Int) < (CT : Int)) = false := decide_eq_false q14
                        rw [decide_eq_true hctg] at hyes
                        have HNX := Lib.hid (hyes rfl)
                        have HLQ := Lib.hid HLQ0
                        have HCS := Lib.hid hcs5
                        clear hno hyes hcs hk1 hb1 hl1 ha hc hat hB hn1 hok hokd hi hlt hil hik hb1c hi0 hDk hmk hoff hct0 hctg hD1 hD2 hj hjl hjk hp0 hcs5 HLQ0 hk0 hl3 hkk ha' hc' hls
                        go_wp2_with fail
                        rw [← HW6.out]
                        rename_i Kc hKc
                        refine wp_region_left (by kernel_rfl)
                          [.is (.pointer (some ⟨w.heap.size, 2, none⟩)), .is (.slice (some ⟨kb, ko, none⟩) K1 ck), .is (.int .i64 (i : Nat)), .is (.pointer (some ⟨kb, ko + i, none⟩)), .is (.slice qa l1 ca), .is (.bool true), .is (.bool false), .is (.bool false), .is (.int .i64 (i : Nat)), .is (.bool true), .is (.bool true), .is (.pointer (some ⟨w.heap.size, 2, none⟩)), .is (.slice (some ⟨kb, ko, none⟩) K1 ck), .is (.int .i64 (i : Nat)), .is (.pointer (some ⟨kb, ko + i, none⟩)), .is (.slice qa l1 ca), .is (.string (strOf k1)), .is (.pointer (some ⟨w.heap.size, 2, none⟩)), .is (.slice (some ⟨kb, ko, none⟩) K1 ck), .is (.int .i64 (i : Nat)), .is (.int .i64 (j : Nat)), .is (.pointer (some ⟨kb, ko + j, none⟩)), .is (.slice qp l3 cp), .is (.string (strOf k0)), .is (.bool false), .is (.bool false), .is (.bool false), .is (.bool false), .is (.pointer (some ⟨wr.heap.size, 0, none⟩)), .is (.int .i64 OFF), .is (.bool false), .is (.bool false), .is (.bool false), .is (.pointer (some ⟨wr.heap.size, 1, none⟩)), .is (.int .u64 (CT : Nat)), .is (.bool false), .is (.bool false), .is (.bool false), .is (.pointer (some ⟨wr.heap.size, 1, none⟩)), .is (.int .u64 (CT : Nat)), .is (.bool false), .is (.bool false)]
                          [[],[0],[],[1,2],[3],[4],[5],[6],[7],[7,8],[7,9],[10],[10,11],[10],[10,12,13],[10,14],[10,15],[10],[10,17],[10],[10,19],[10,18,20],[10,21],[10,22],[10,16,23],[7,10,24],[7,25],[26],[27],[27,28],[27,29],[27,30],[31],[32],[32,33],[32,34],[32,35],[36],[37],[37,38],[37,39],[37,40]] (by kernel_rfl) (by rfl) ?_ ?_
                        · repeat' (first | exact LeftOps.nil | refine LeftOps.cons ?_ ?_)
                          all_goals (intro wz hwz; clear hKc; try ((repeat (refine withLeft_is rfl rfl ?_)); (with_reducible refine withLeft_nil ?_); (try simp only [Act.put, arr0, arr1, arr2]); (try first | refine lft_run rfl rfl ?_ | refine lft_want rfl rfl rfl rfl ?_)))
                          · unfold LftRun; go_wp2; exact lend
                          · obtain ⟨n2, e0, x0, x1, p0⟩ := HCS.out wz hwz; unfold LftRun; go_wp2; exact lend
                          · exact lmv
                          · unfold LftRun; go_wp2; exact lend
                          · obtain ⟨n2, e0, x0, x1, p0⟩ := HCS.out wz hwz; unfold LftRun; go_wp2; exact lend
                          · unfold LftRun; go_wp2_with fail; refine (HMK.out wz hwz).mono ?_; rintro e wq ⟨rfl, rfl⟩; go_wp2; exact lend
                          · unfold LftRun; go_wp2; exact lend
                          · exact lmv
                          · exact lmv
                          · unfold LftRun; go_wp2; exact lend
                          · exact lmv
                          · unfold LftRun; go_wp2; exact lend
                          · obtain ⟨n2, e0, x0, x1, p0⟩ := HCS.out wz hwz; unfold LftRun; go_wp2; exact lend
                          · exact lmv
                          · unfold LftRun; go_wp2; exact lend
                          · obtain ⟨n2, e0, x0, x1, p0⟩ := HCS.out wz hwz; unfold LftRun; go_wp2; exact lend
                          · have hcv := (HK1.out wz hwz).toString (P := Try.prog) byT (d := 9) (by kernel_rfl); unfold LftRun; go_wp2; exact lend
                          · unfold LftRun; go_wp2; exact lend
                          · obtain ⟨n2, e0, x0, x1, p0⟩ := HCS.out wz hwz; unfold LftRun; go_wp2; exact lend
                          · exact lmv
                          · unfold LftRun; go_wp2; exact lend
                          · unfold LftRun; go_wp2; exact lend
                          · obtain ⟨n2, e0, x0, x1, p0⟩ := HCS.out wz hwz; unfold LftRun; go_wp2; exact lend
                          · have hcv := (HK0.out wz hwz).toString (P := Try.prog) byT (d := 9) (by kernel_rfl); unfold LftRun; go_wp2; exact lend
                          · have hlq := HLQ.out wz; unfold LftRun; go_wp2; exact lend
                          · exact lpk
                          · exact lpk
                          · exact lmv
                          · unfold LftRun; go_wp2; exact lend
                          · obtain ⟨n2, e0, x0, x1, p0⟩ := HCS.out wz hwz; unfold LftRun; go_wp2; exact lend
                          · unfold LftRun; go_wp2; exact lend
                          · exact lpk
                          · exact lmv
                          · unfold LftRun; go_wp2; exact lend
                          · obtain ⟨n2, e0, x0, x1, p0⟩ := HCS.out wz hwz; unfold LftRun; go_wp2; exact lend
                          · unfold LftRun; go_wp2; exact lend
                          · exact lpk
                          · exact lmv
                          · unfold LftRun; go_wp2; exact lend
                          · obtain ⟨n2, e0, x0, x1, p0⟩ := HCS.out wz hwz; unfold LftRun; go_wp2; exact lend
                          · unfold LftRun; go_wp2; exact lend
                          · exact lpk
                        intro wz hwz
                        refine le8 (le8 (le8 (le8 (le8 (LeftEnd.is (LeftEnd.is (LeftEnd.nil ?_)))))))
                        simp only [Act.put, arr0, arr1, arr2]
                        refine hKc _ _ ?_
                        clear hKc Kc
                        go_wp2
                        go_roundw
                        case rel => exact HNX.out wz hwz
                        case measure => simp [intOf]; have := HLT.out; omega
                      · have q14 : (1099511627776 : Int) < (CT : Int) := by omega
                        have q15 : decide ((1099511627776 : Int) < (CT : Int)) = true := decide_eq_true q14
                        rw [decide_eq_false hctg] at hno
                        have HNO := Lib.hid (hno rfl)
                        have HLQ := Lib.hid HLQ0
                        have HCS := Lib.hid hcs5
                        clear hno hyes hcs hk1 hb1 hl1 ha hc hat hB hn1 hok hokd hi hlt hil hik hb1c hi0 hDk hmk hoff hct0 hctg hD1 hD2 hj hjl hjk hp0 hcs5 HLQ0 hk0 hl3 hkk ha' hc' hls
                        go_wp2_with fail
                        rw [← HW6.out]
                        rename_i Kc hKc
                        refine wp_region_left (by kernel_rfl)
                          [.is (.pointer (some ⟨w.heap.size, 2, none⟩)), .is (.slice (some ⟨kb, ko, none⟩) K1 ck), .is (.int .i64 (i : Nat)), .is (.pointer (some ⟨kb, ko + i, none⟩)), .is (.slice qa l1 ca), .is (.bool true), .is (.bool false), .is (.bool false), .is (.int .i64 (i : Nat)), .is (.bool true), .is (.bool true), .is (.pointer (some ⟨w.heap.size, 2, none⟩)), .is (.slice (some ⟨kb, ko, none⟩) K1 ck), .is (.int .i64 (i : Nat)), .is (.pointer (some ⟨kb, ko + i, none⟩)), .is (.slice qa l1 ca), .is (.string (strOf k1)), .is (.pointer (some ⟨w.heap.size, 2, none⟩)), .is (.slice (some ⟨kb, ko, none⟩) K1 ck), .is (.int .i64 (i : Nat)), .is (.int .i64 (j : Nat)), .is (.pointer (some ⟨kb, ko + j, none⟩)), .is (.slice qp l3 cp), .is (.string (strOf k0)), .is (.bool false), .is (.bool false), .is (.bool false), .is (.bool false), .is (.pointer (some ⟨wr.heap.size, 0, none⟩)), .is (.int .i64 OFF), .is (.bool false), .is (.bool false), .is (.bool false), .is (.pointer (some ⟨wr.heap.size, 1, none⟩)), .is (.int .u64 (CT : Nat)), .is (.bool false), .is (.bool false), .is (.bool false), .is (.pointer (some ⟨wr.heap.size, 1, none⟩)), .is (.int .u64 (CT : Nat)), .is (.bool true), .is (.bool true)]
                          [[],[0],[],[1,2],[3],[4],[5],[6],[7],[7,8],[7,9],[10],[10,11],[10],[10,12,13],[10,14],[10,15],[10],[10,17],[10],[10,19],[10,18,20],[10,21],[10,22],[10,16,23],[7,10,24],[7,25],[26],[27],[27,28],[27,29],[27,30],[31],[32],[32,33],[32,34],[32,35],[36],[37],[37,38],[37,39],[37,40]] (by kernel_rfl) (by rfl) ?_ ?_
                        · repeat' (first | exact LeftOps.nil | refine LeftOps.cons ?_ ?_)
                          all_goals (intro wz hwz; clear hKc; try ((repeat (refine withLeft_is rfl rfl ?_)); (with_reducible refine withLeft_nil ?_); (try simp only [Act.put, arr0, arr1, arr2]); (try first | refine lft_run rfl rfl ?_ | refine lft_want rfl rfl rfl rfl ?_)))
                          · unfold LftRun; go_wp2; exact lend
                          · obtain ⟨n2, e0, x0, x1, p0⟩ := HCS.out wz hwz; unfold LftRun; go_wp2; exact lend
                          · exact lmv
                          · unfold LftRun; go_wp2; exact lend
                          · obtain ⟨n2, e0, x0, x1, p0⟩ := HCS.out wz hwz; unfold LftRun; go_wp2; exact lend
                          · unfold LftRun; go_wp2_with fail; refine (HMK.out wz hwz).mono ?_; rintro e wq ⟨rfl, rfl⟩; go_wp2; exact lend
                          · unfold LftRun; go_wp2; exact lend
                          · exact lmv
                          · exact lmv
                          · unfold LftRun; go_wp2; exact lend
                          · exact lmv
                          · unfold LftRun; go_wp2; exact lend
                          · obtain ⟨n2, e0, x0, x1, p0⟩ := HCS.out wz hwz; unfold LftRun; go_wp2; exact lend
                          · exact lmv
                          · unfold LftRun; go_wp2; exact lend
                          · obtain ⟨n2, e0, x0, x1, p0⟩ := HCS.out wz hwz; unfold LftRun; go_wp2; exact lend
                          · have hcv := (HK1.out wz hwz).toString (P := Try.prog) byT (d := 9) (by kernel_rfl); unfold LftRun; go_wp2; exact lend
                          · unfold LftRun; go_wp2; exact lend
                          · obtain ⟨n2, e0, x0, x1, p0⟩ := HCS.out wz hwz; unfold LftRun; go_wp2; exact lend
                          · exact lmv
                          · unfold LftRun; go_wp2; exact lend
                          · unfold LftRun; go_wp2; exact lend
                          · obtain ⟨n2, e0, x0, x1, p0⟩ := HCS.out wz hwz; unfold LftRun; go_wp2; exact lend
                          · have hcv := (HK0.out wz hwz).toString (P := Try.prog) byT (d := 9) (by kernel_rfl); unfold LftRun; go_wp2; exact lend
                          · have hlq := HLQ.out wz; unfold LftRun; go_wp2; exact lend
                          · exact lpk
                          · exact lpk
                          · exact lmv
                          · unfold LftRun; go_wp2; exact lend
                          · obtain ⟨n2, e0, x0, x1, p0⟩ := HCS.out wz hwz; unfold LftRun; go_wp2; exact lend
                          · unfold LftRun; go_wp2; exact lend
                          · exact lpk
                          · exact lmv
                          · unfold LftRun; go_wp2; exact lend
                          · obtain ⟨n2, e0, x0, x1, p0⟩ := HCS.out wz hwz; unfold LftRun; go_wp2; exact lend
                          · unfold LftRun; go_wp2; exact lend
                          · exact lpk
                          · exact lmv
                          · unfold LftRun; go_wp2; exact lend
                          · obtain ⟨n2, e0, x0, x1, p0⟩ := HCS.out wz hwz; unfold LftRun; go_wp2; exact lend
                          · unfold LftRun; go_wp2; exact lend
                          · exact lpk
                        intro wz hwz
                        refine le8 (le8 (le8 (le8 (le8 (LeftEnd.is (LeftEnd.is (LeftEnd.nil ?_)))))))
                        simp only [Act.put, arr0, arr1, arr2]
                        refine hKc _ _ ?_
                        clear hKc Kc
                        go_wp2
                        go_ret
                        exact HNO.out wz hwz
                    · have q12 : (CT : Int) < 1 := by omega
                      have q13 : decide ((CT : Int) < 1) = true := decide_eq_true q12
                      rw [decide_eq_false hct0, Bool.false_and] at hno
                      have HNO := Lib.hid (hno rfl)
                      have HLQ := Lib.hid HLQ0
                      have HCS := Lib.hid hcs5
                      clear hno hyes hcs hk1 hb1 hl1 ha hc hat hB hn1 hok hokd hi hlt hil hik hb1c hi0 hDk hmk hoff hct0 hD1 hD2 hj hjl hjk hp0 hcs5 HLQ0 hk0 hl3 hkk ha' hc' hls
                      go_wp2_with fail
                      rw [← HW6.out]
                      rename_i Kc hKc
                      refine wp_region_left (by kernel_rfl)
                        [.is (.pointer (some ⟨w.heap.size, 2, none⟩)), .is (.slice (some ⟨kb, ko, none⟩) K1 ck), .is (.int .i64 (i : Nat)), .is (.pointer (some ⟨kb, ko + i, none⟩)), .is (.slice qa l1 ca), .is (.bool true), .is (.bool false), .is (.bool false), .is (.int .i64 (i : Nat)), .is (.bool true), .is (.bool true), .is (.pointer (some ⟨w.heap.size, 2, none⟩)), .is (.slice (some ⟨kb, ko, none⟩) K1 ck), .is (.int .i64 (i : Nat)), .is (.pointer (some ⟨kb, ko + i, none⟩)), .is (.slice qa l1 ca), .is (.string (strOf k1)), .is (.pointer (some ⟨w.heap.size, 2, none⟩)), .is (.slice (some ⟨kb, ko, none⟩) K1 ck), .is (.int .i64 (i : Nat)), .is (.int .i64 (j : Nat)), .is (.pointer (some ⟨kb, ko + j, none⟩)), .is (.slice qp l3 cp), .is (.string (strOf k0)), .is (.bool false), .is (.bool false), .is (.bool false), .is (.bool false), .is (.pointer (some ⟨wr.heap.size, 0, none⟩)), .is (.int .i64 OFF), .is (.bool false), .is (.bool false), .is (.bool false), .is (.pointer (some ⟨wr.heap.size, 1, none⟩)), .is (.int .u64 (CT : Nat)), .is (.bool true), .is (.bool true), .is (.bool true), .is undef, .is undef, .is undef, .is (.bool true)]
                        [[],[0],[],[1,2],[3],[4],[5],[6],[7],[7,8],[7,9],[10],[10,11],[10],[10,12,13],[10,14],[10,15],[10],[10,17],[10],[10,19],[10,18,20],[10,21],[10,22],[10,16,23],[7,10,24],[7,25],[26],[27],[27,28],[27,29],[27,30],[31],[32],[32,33],[32,34],[32,35],[36],[37],[37,38],[37,39],[37,40]] (by kernel_rfl) (by rfl) ?_ ?_
                      · repeat' (first | exact LeftOps.nil | refine LeftOps.cons ?_ ?_)
                        all_goals (intro wz hwz; clear hKc; try ((repeat (refine withLeft_is rfl rfl ?_)); (with_reducible refine withLeft_nil ?_); (try simp only [Act.put, arr0, arr1, arr2]); (try first | refine lft_run rfl rfl ?_ | refine lft_want rfl rfl rfl rfl ?_)))
                        · unfold LftRun; go_wp2; exact lend
                        · obtain ⟨n2, e0, x0, x1, p0⟩ := HCS.out wz hwz; unfold LftRun; go_wp2; exact lend
                        · exact lmv
                        · unfold LftRun; go_wp2; exact lend
                        · obtain ⟨n2, e0, x0, x1, p0⟩ := HCS.out wz hwz; unfold LftRun; go_wp2; exact lend
                        · unfold LftRun; go_wp2_with fail; refine (HMK.out wz hwz).mono ?_; rintro e wq ⟨rfl, rfl⟩; go_wp2; exact lend
                        · unfold LftRun; go_wp2; exact lend
                        · exact lmv
                        · exact lmv
                        · unfold LftRun; go_wp2; exact lend
                        · exact lmv
                        · unfold LftRun; go_wp2; exact lend
                        · obtain ⟨n2, e0, x0, x1, p0⟩ := HCS.out wz hwz; unfold LftRun; go_wp2; exact lend
                        · exact lmv
                        · unfold LftRun; go_wp2; exact lend
                        · obtain ⟨n2, e0, x0, x1, p0⟩ := HCS.out wz hwz; unfold LftRun; go_wp2; exact lend
                        · have hcv := (HK1.out wz hwz).toString (P := Try.prog) byT (d := 9) (by kernel_rfl); unfold LftRun; go_wp2; exact lend
                        · unfold LftRun; go_wp2; exact lend
                        · obtain ⟨n2, e0, x0, x1, p0⟩ := HCS.out wz hwz; unfold LftRun; go_wp2; exact lend
                        · exact lmv
                        · unfold LftRun; go_wp2; exact lend
                        · unfold LftRun; go_wp2; exact lend
                        · obtain ⟨n2, e0, x0, x1, p0⟩ := HCS.out wz hwz; unfold LftRun; go_wp2; exact lend
                        · have hcv := (HK0.out wz hwz).toString (P := Try.prog) byT (d := 9) (by kernel_rfl); unfold LftRun; go_wp2; exact lend
                        · have hlq := HLQ.out wz; unfold LftRun; go_wp2; exact lend
                        · exact lpk
                        · exact lpk
                        · exact lmv
                        · unfold LftRun; go_wp2; exact lend
                        · obtain ⟨n2, e0, x0, x1, p0⟩ := HCS.out wz hwz; unfold LftRun; go_wp2; exact lend
                        · unfold LftRun; go_wp2; exact lend
                        · exact lpk
                        · exact lmv
                        · unfold LftRun; go_wp2; exact lend
                        · obtain ⟨n2, e0, x0, x1, p0⟩ := HCS.out wz hwz; unfold LftRun; go_wp2; exact lend
                        · unfold LftRun; go_wp2; exact lend
                        · exact lpk
                        · exact lmv
                        · exact lsk
                        · exact lsk
                        · exact lsk
                        · exact lpk
                      intro wz hwz
                      refine le8 (le8 (le8 (le8 (le8 (LeftEnd.is (LeftEnd.is (LeftEnd.nil ?_)))))))
                      simp only [Act.put, arr0, arr1, arr2]
                      refine hKc _ _ ?_
                      clear hKc Kc
                      go_wp2
                      go_ret
                      exact HNO.out wz hwz
                  · have q10 : OFF < 1 := by omega
                    have q11 : decide (OFF < 1) = true := decide_eq_true q10
                    rw [decide_eq_false hoff, Bool.false_and] at hno
                    have HNO := Lib.hid (hno rfl)
                    have HLQ := Lib.hid HLQ0
                    have HCS := Lib.hid hcs5
                    clear hno hyes hcs hk1 hb1 hl1 ha hc hat hB hn1 hok hokd hi hlt hil hik hb1c hi0 hDk hmk hoff hD1 hD2 hj hjl hjk hp0 hcs5 HLQ0 hk0 hl3 hkk ha' hc' hls
                    go_wp2_with fail
                    rw [← HW6.out]
                    rename_i Kc hKc
                    refine wp_region_left (by kernel_rfl)
                      [.is (.pointer (some ⟨w.heap.size, 2, none⟩)), .is (.slice (some ⟨kb, ko, none⟩) K1 ck), .is (.int .i64 (i : Nat)), .is (.pointer (some ⟨kb, ko + i, none⟩)), .is (.slice qa l1 ca), .is (.bool true), .is (.bool false), .is (.bool false), .is (.int .i64 (i : Nat)), .is (.bool true), .is (.bool true), .is (.pointer (some ⟨w.heap.size, 2, none⟩)), .is (.slice (some ⟨kb, ko, none⟩) K1 ck), .is (.int .i64 (i : Nat)), .is (.pointer (some ⟨kb, ko + i, none⟩)), .is (.slice qa l1 ca), .is (.string (strOf k1)), .is (.pointer (some ⟨w.heap.size, 2, none⟩)), .is (.slice (some ⟨kb, ko, none⟩) K1 ck), .is (.int .i64 (i : Nat)), .is (.int .i64 (j : Nat)), .is (.pointer (some ⟨kb, ko + j, none⟩)), .is (.slice qp l3 cp), .is (.string (strOf k0)), .is (.bool false), .is (.bool false), .is (.bool false), .is (.bool false), .is (.pointer (some ⟨wr.heap.size, 0, none⟩)), .is (.int .i64 OFF), .is (.bool true), .is (.bool true), .is (.bool true), .is undef, .is undef, .is undef, .is (.bool true), .is (.bool true), .is undef, .is undef, .is undef, .is (.bool true)]
                      [[],[0],[],[1,2],[3],[4],[5],[6],[7],[7,8],[7,9],[10],[10,11],[10],[10,12,13],[10,14],[10,15],[10],[10,17],[10],[10,19],[10,18,20],[10,21],[10,22],[10,16,23],[7,10,24],[7,25],[26],[27],[27,28],[27,29],[27,30],[31],[32],[32,33],[32,34],[32,35],[36],[37],[37,38],[37,39],[37,40]] (by kernel_rfl) (by rfl) ?_ ?_
                    · repeat' (first | exact LeftOps.nil | refine LeftOps.cons ?_ ?_)
                      all_goals (intro wz hwz; clear hKc; try ((repeat (refine withLeft_is rfl rfl ?_)); (with_reducible refine withLeft_nil ?_); (try simp only [Act.put, arr0, arr1, arr2]); (try first | refine lft_run rfl rfl ?_ | refine lft_want rfl rfl rfl rfl ?_)))
                      · unfold LftRun; go_wp2; exact lend
                      · obtain ⟨n2, e0, x0, x1, p0⟩ := HCS.out wz hwz; unfold LftRun; go_wp2; exact lend
                      · exact lmv
                      · unfold LftRun; go_wp2; exact lend
                      · obtain ⟨n2, e0, x0, x1, p0⟩ := HCS.out wz hwz; unfold LftRun; go_wp2; exact lend
                      · unfold LftRun; go_wp2_with fail; refine (HMK.out wz hwz).mono ?_; rintro e wq ⟨rfl, rfl⟩; go_wp2; exact lend
                      · unfold LftRun; go_wp2; exact lend
                      · exact lmv
                      · exact lmv
                      · unfold LftRun; go_wp2; exact lend
                      · exact lmv
                      · unfold LftRun; go_wp2; exact lend
                      · obtain ⟨n2, e0, x0, x1, p0⟩ := HCS.out wz hwz; unfold LftRun; go_wp2; exact lend
                      · exact lmv
                      · unfold LftRun; go_wp2; exact lend
                      · obtain ⟨n2, e0, x0, x1, p0⟩ := HCS.out wz hwz; unfold LftRun; go_wp2; exact lend
                      · have hcv := (HK1.out wz hwz).toString (P := Try.prog) byT (d := 9) (by kernel_rfl); unfold LftRun; go_wp2; exact lend
                      · unfold LftRun; go_wp2; exact lend
                      · obtain ⟨n2, e0, x0, x1, p0⟩ := HCS.out wz hwz; unfold LftRun; go_wp2; exact lend
                      · exact lmv
                      · unfold LftRun; go_wp2; exact lend
                      · unfold LftRun; go_wp2; exact lend
                      · obtain ⟨n2, e0, x0, x1, p0⟩ := HCS.out wz hwz; unfold LftRun; go_wp2; exact lend
                      · have hcv := (HK0.out wz hwz).toString (P := Try.prog) byT (d := 9) (by kernel_rfl); unfold LftRun; go_wp2; exact lend
                      · have hlq := HLQ.out wz; unfold LftRun; go_wp2; exact lend
                      · exact lpk
                      · exact lpk
                      · exact lmv
                      · unfold LftRun; go_wp2; exact lend
                      · obtain ⟨n2, e0, x0, x1, p0⟩ := HCS.out wz hwz; unfold LftRun; go_wp2; exact lend
                      · unfold LftRun; go_wp2; exact lend
                      · exact lpk
                      · exact lmv
                      · exact lsk
                      · exact lsk
                      · exact lsk
                      · exact lpk
                      · exact lmv
                      · exact lsk
                      · exact lsk
                      · exact lsk
                      · exact lpk
                    intro wz hwz
                    refine le8 (le8 (le8 (le8 (le8 (LeftEnd.is (LeftEnd.is (LeftEnd.nil ?_)))))))
                    simp only [Act.put, arr0, arr1, arr2]
                    refine hKc _ _ ?_
                    clear hKc Kc
                    go_wp2
                    go_ret
                    exact HNO.out wz hwz
                | false =>
                  rw [hls] at hno HLQ0
                  have HLQ := Lib.hid HLQ0
                  have HNO := Lib.hid (hno rfl)
                  have HCS := Lib.hid hcs5
                  clear hno hyes hcs hk1 hb1 hl1 ha hc hat hB hn1 hok hokd hi hlt hil hik hb1c hi0 hDk hmk hD1 hD2 hj hjl hjk hp0 hcs5 HLQ0 hk0 hl3 hkk ha' hc' hls
                  go_wp2_with fail
                  rw [← HW6.out]
                  rename_i Kc hKc
                  refine wp_region_left (by kernel_rfl)
                    [.is (.pointer (some ⟨w.heap.size, 2, none⟩)), .is (.slice (some ⟨kb, ko, none⟩) K1 ck), .is (.int .i64 (i : Nat)), .is (.pointer (some ⟨kb, ko + i, none⟩)), .is (.slice qa l1 ca), .is (.bool true), .is (.bool false), .is (.bool false), .is (.int .i64 (i : Nat)), .is (.bool true), .is (.bool true), .is (.pointer (some ⟨w.heap.size, 2, none⟩)), .is (.slice (some ⟨kb, ko, none⟩) K1 ck), .is (.int .i64 (i : Nat)), .is (.pointer (some ⟨kb, ko + i, none⟩)), .is (.slice qa l1 ca), .is (.string (strOf k1)), .is (.pointer (some ⟨w.heap.size, 2, none⟩)), .is (.slice (some ⟨kb, ko, none⟩) K1 ck), .is (.int .i64 (i : Nat)), .is (.int .i64 (j : Nat)), .is (.pointer (some ⟨kb, ko + j, none⟩)), .is (.slice qp l3 cp), .is (.string (strOf k0)), .is (.bool true), .is (.bool true), .is (.bool true), .is (.bool true), .is undef, .is undef, .is undef, .is (.bool true), .is (.bool true), .is undef, .is undef, .is undef, .is (.bool true), .is (.bool true), .is undef, .is undef, .is undef, .is (.bool true)]
                    [[],[0],[],[1,2],[3],[4],[5],[6],[7],[7,8],[7,9],[10],[10,11],[10],[10,12,13],[10,14],[10,15],[10],[10,17],[10],[10,19],[10,18,20],[10,21],[10,22],[10,16,23],[7,10,24],[7,25],[26],[27],[27,28],[27,29],[27,30],[31],[32],[32,33],[32,34],[32,35],[36],[37],[37,38],[37,39],[37,40]] (by kernel_rfl) (by rfl) ?_ ?_
                  · repeat' (first | exact LeftOps.nil | refine LeftOps.cons ?_ ?_)
                    all_goals (intro wz hwz; clear hKc; try ((repeat (refine withLeft_is rfl rfl ?_)); (with_reducible refine withLeft_nil ?_); (try simp only [Act.put, arr0, arr1, arr2]); (try first | refine lft_run rfl rfl ?_ | refine lft_want rfl rfl rfl rfl ?_)))
                    · unfold LftRun; go_wp2; exact lend
                    · obtain ⟨n2, e0, x0, x1, p0⟩ := HCS.out wz hwz; unfold LftRun; go_wp2; exact lend
                    · exact lmv
                    · unfold LftRun; go_wp2; exact lend
                    · obtain ⟨n2, e0, x0, x1, p0⟩ := HCS.out wz hwz; unfold LftRun; go_wp2; exact lend
                    · unfold LftRun; go_wp2_with fail; refine (HMK.out wz hwz).mono ?_; rintro e wq ⟨rfl, rfl⟩; go_wp2; exact lend
                    · unfold LftRun; go_wp2; exact lend
                    · exact lmv
                    · exact lmv
                    · unfold LftRun; go_wp2; exact lend
                    · exact lmv
                    · unfold LftRun; go_wp2; exact lend
                    · obtain ⟨n2, e0, x0, x1, p0⟩ := HCS.out wz hwz; unfold LftRun; go_wp2; exact lend
                    · exact lmv
                    · unfold LftRun; go_wp2; exact lend
                    · obtain ⟨n2, e0, x0, x1, p0⟩ := HCS.out wz hwz; unfold LftRun; go_wp2; exact lend
                    · have hcv := (HK1.out wz hwz).toString (P := Try.prog) byT (d := 9) (by kernel_rfl); unfold LftRun; go_wp2; exact lend
                    · unfold LftRun; go_wp2; exact lend
                    · obtain ⟨n2, e0, x0, x1, p0⟩ := HCS.out wz hwz; unfold LftRun; go_wp2; exact lend
                    · exact lmv
                    · unfold LftRun; go_wp2; exact lend
                    · unfold LftRun; go_wp2; exact lend
                    · obtain ⟨n2, e0, x0, x1, p0⟩ := HCS.out wz hwz; unfold LftRun; go_wp2; exact lend
                    · have hcv := (HK0.out wz hwz).toString (P := Try.prog) byT (d := 9) (by kernel_rfl); unfold LftRun; go_wp2; exact lend
                    · have hlq := HLQ.out wz; unfold LftRun; go_wp2; exact lend
                    · exact lpk
                    · exact lpk
                    · exact lmv
                    · exact lsk
                    · exact lsk
                    · exact lsk
                    · exact lpk
                    · exact lmv
                    · exact lsk
                    · exact lsk
                    · exact lsk
                    · exact lpk
                    · exact lmv
                    · exact lsk
                    · exact lsk
                    · exact lsk
                    · exact lpk
                  intro wz hwz
                  refine le8 (le8 (le8 (le8 (le8 (LeftEnd.is (LeftEnd.is (LeftEnd.nil ?_)))))))
                  simp only [Act.put, arr0, arr1, arr2]
                  refine hKc _ _ ?_
                  clear hKc Kc
                  go_wp2
                  go_ret
                  exact HNO.out wz hwz
          · have hiL : i = K1 := by have := HL.out; omega
            have hXT : X = true := by
              rw [HXE.out]
              rw [List.take_of_length_le (by rw [← HLK.out]; omega)] at hok
              rw [List.take_of_length_le (by rw [← HL.out]; omega)] at hokd
              rw [hok, hokd]; rfl
            have HFIN := Lib.hid (HT.out wr (HB.out.trans (hB.mono HB.out.size)) hXT)
            subst hiL
            clear hok hokd hB hXT hlt hi hn1
            go_wp2
            go_ret
            exact HFIN.out
      · have hXf := HXN.out (.inr (.inr (.inr hkk)))
        have HFIN := Lib.hid (HF.out W HB.out hXf)
        have q4 : ((K1 : Int) != (L : Int)) = true := by simp; omega
        subst h0
        clear h hX hW hb hx hl1 hl2 hl3 hl4 hl5 hl6 hK0 hL hK1 hXf hb8 hkk
        go_enter Try.func73, Try.ntmps73
        go_wp2
        rw [← HW.out]
        go_ret
        exact HFIN.out
    · have hXf := HXN.out (by omega)
      have HFIN := Lib.hid (HF.out W HB.out hXf)
      subst h0
      by_cases hL1 : L < 2
      · have q1 : (L : Int) < 2 := by omega
        clear h hX hW hb hx hl1 hl2 hl3 hl4 hl5 hl6 hK0 hL hK1 hXf hb8
        go_enter Try.func73, Try.ntmps73
        go_wp2
        rw [← HW.out]
        go_ret
        exact HFIN.out
      · have q1 : ¬ (L : Int) < 2 := by omega
        have q2 : (8 : Int) < L := by omega
        clear h hX hW hb hx hl1 hl2 hl3 hl4 hl5 hl6 hK0 hL hK1 hXf hb8
        go_enter Try.func73, Try.ntmps73
        go_wp2
        rw [← HW.out]
        go_ret
        exact HFIN.out
  · have hXf := HXN.out (.inl h0)
    have HFIN := Lib.hid (HF.out W HB.out hXf)
    have hs : (0 : Int) < (K0 : Int) := by omega
    have hs2 : 0 < K0 := by omega
    clear h hX hW hb hx hl1 hl2 hl3 hl4 hl5 hl6 hK0 hL hK1 hXf h0
    go_enter Try.func73, Try.ntmps73
    go_wp2
    rw [← HW.out]
    go_ret
    exact HFIN.out
end Go.Proofs.Ytajfcnaifegonaa.Sl.Nd
