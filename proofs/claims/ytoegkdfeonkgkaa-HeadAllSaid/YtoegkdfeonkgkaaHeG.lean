/- Heads in a program: rows of parts, taken. -/
import Derived.Test.YtoegkdfeonkgkaaHeE
import Derived.Test.YtoegkdfeonkgkaaHdC
import Derived.Test.YtoegkdfeonkgkaaHdD
namespace Go.Proofs.Ytoegkdfeonkgkaa
open Go Go.RowKit Go.By

/-- Only this block turned. -/
structure Only (A : Nat) (w w' : World) : Prop where
  os : w'.os = w.os
  tape : w'.tape = w.tape
  output : w'.output = w.output
  size : w.heap.size ≤ w'.heap.size
  block : ∀ k, k < w.heap.size → k ≠ A → w'.heap[k]? = w.heap[k]?
theorem Only.refl (A : Nat) (w : World) : Only A w w := ⟨rfl, rfl, rfl, Nat.le_refl _, fun _ _ _ => rfl⟩
theorem Only.of_below {A : Nat} {w w' : World} (h : Below w.heap.size w w') : Only A w w' := ⟨h.os, h.tape, h.output, h.size, fun k hk _ => h.block k hk⟩
theorem Only.trans {A : Nat} {w w1 w2 : World} (h : Only A w w1) (h2 : Only A w1 w2) : Only A w w2 :=
  ⟨h2.os.trans h.os, h2.tape.trans h.tape, h2.output.trans h.output, Nat.le_trans h.size h2.size, fun k hk hne => (h2.block k (Nat.lt_of_lt_of_le hk h.size) hne).trans (h.block k hk hne)⟩
theorem Only.set (A i : Nat) (w : World) (v : Value) : Only A w (w.setCell ⟨A, i, none⟩ v) :=
  ⟨rfl, rfl, rfl, by simp [World.setCell], fun k _ hne => heap_setCell_other w ⟨A, i, none⟩ k v hne⟩
theorem Below.only {B A : Nat} {w0 w w' : World} (h : Below B w0 w) (hB : B ≤ A) (hw : B ≤ w.heap.size) (h2 : Only A w w') : Below B w0 w' :=
  ⟨h2.os.trans h.os, h2.tape.trans h.tape, h2.output.trans h.output, Nat.le_trans h.size h2.size, fun k hk => (h2.block k (by omega) (by omega)).trans (h.block k hk)⟩

/-- A part's method takes what it takes, or tells that it is not there. -/
structure TakePart (w0 : World) (A : Nat) (f : FuncId) (ok : Bool) (l l' : List Nat) (S S' : World → Prop) : Prop where
  enter : ∀ args w, (callFunc f args).run Try.prog w = .ok (.enter f args) w
  takes : ∀ (v : Value) (w : World), Bytes w0 v l → Below w0.heap.size w0 w → S w →
    Calls Try.prog f #[.pointer (some ⟨A, 0, none⟩), v] w fun e w' => ∃ v', e = .returned (.tuple #[v', .bool ok]) ∧ Only A w w' ∧ (ok = true → Bytes w0 v' l' ∧ S' w')

theorem take_head_ret {tmps : Array Value} {w : World} {A : Nat} {cs : Array Value} {x : Value} (hp : tmps.getD 6 undef = .pointer (some ⟨A, 0, none⟩)) (hx : tmps.getD 7 undef = x) (hg : w.heap[A]? = some (.cells cs 45 (0, 0))) (hc : cs.size = 3) :
    (results Try.f23 tmps).run Try.prog w = .ok (.tuple #[.agg cs, x]) w := by
  have hi : (Try.prog.info? 45).map (·.size) = some cs.size := by rw [hc]; kernel_rfl
  have hq : (Try.prog.underlying 45).map (fun d => match d with | .struct _ | .array _ _ => true | _ => false) = some true := by kernel_rfl
  obtain ⟨d, hu, hd⟩ := Option.map_eq_some_iff.1 hq
  rw [results_cell_tmp (p := 6) (u := 7) (ty := 45) (by kernel_rfl), hp, hx]
  have := run_loadVar_row (P := Try.prog) w A 45 45 cs (0, 0) d hg hu (by cases d <;> simp_all) hi
  simp [asAddr, this, Result.andThen]

def TakeRelhead (w : World) (n : Nat) (ok : Nat → Bool) (rows : Nat → List Nat) (S : Nat → World → Prop) (x i : Value) (W : World) : Prop :=
  ∃ (k : Nat), k ≤ n ∧ i = .int .i64 k ∧ Bytes w x (rows k) ∧ Below w.heap.size w W ∧ S k W ∧ (∀ j, j < k → ok j = true) ∧ w.heap.size + 3 ≤ W.heap.size ∧ W.heap[w.heap.size]? = some (.cells #[.int .i64 0, .int .i64 0, .bool false] 45 (0, 0)) ∧ W.heap[(w.heap.size + 2)]? = some (.cells #[.int .i64 0, .int .i64 0, .bool false] 45 (0, 0))
set_option maxRecDepth 100000 in
theorem take_head (v : Value) (l : List Nat) (mf : FuncId) (q good : Bool) (fs : List FuncId) (ok : Nat → Bool) (rows : Nat → List Nat) (S : Nat → World → Prop) (Out : Int → Int → Bool →  World → Prop) (rb : Nat) (w : World) (hv : Bytes w v l) (h4 : fs.length ≤ 4) (hr0 : rows 0 = l)
    (hS0 : ∀ W, Below w.heap.size w W → W.heap[(w.heap.size + 1)]? = some (.cells #[.int .i64 0, .int .i64 0, .bool false] 45 (0, 0)) → S 0 W)
    (hP : ∀ (i : Nat) f, fs[i]? = some f → TakePart w (w.heap.size + 1) f (ok i) (rows i) (rows (i + 1)) (S i) (S (i + 1)))
    (hEnd : ∀ W, S fs.length W → (∀ j, j < fs.length → ok j = true) → ∃ x0 x1 x2,  W.heap[(w.heap.size + 1)]? = some (.cells #[.int .i64 x0, .int .i64 x1, .bool x2] 45 (0, 0)) ∧ (rows fs.length = [] → MayPart mf (.agg #[.int .i64 x0, .int .i64 x1, .bool x2]) q) ∧ Out x0 x1 x2 W)
    (hOut : ∀ (x0 : Int) (x1 : Int) (x2 : Bool) W W', Out x0 x1 x2 W → W.heap[w.heap.size]? = some (.cells #[.int .i64 0, .int .i64 0, .bool false] 45 (0, 0)) → Only w.heap.size W W' → Out x0 x1 x2 W')
    (hg1 : ∀ j, j < fs.length → ok j = false → good = false) (hg2 : rows fs.length ≠ [] → good = false) (hg3 : (∀ j, j < fs.length → ok j = true) → rows fs.length = [] → good = q)
    (hent : ∀ args w, (callFunc mf args).run Try.prog w = .ok (.enter mf args) w)
    (hrow : ∀ (i : Nat) f, fs[i]? = some f → w.cell? ⟨rb, i, none⟩ = some (.func (.func f) #[] #[])) (hrb : rb < w.heap.size) :
    Calls Try.prog 23 #[v, .func (.func mf) #[] #[], .slice (some ⟨rb, 0, none⟩) fs.length fs.length] w fun z w' => Below w.heap.size w w' ∧ ((good = true ∧ ∃ x0 x1 x2,  z = .returned (.tuple #[.agg #[.int .i64 x0, .int .i64 x1, .bool x2], .int .i64 0]) ∧ Out x0 x1 x2 w') ∨ (good = false ∧ z = .returned (.tuple #[.agg #[.int .i64 0, .int .i64 0, .bool false], .int .i64 2]))) := by
  obtain ⟨p, cap, rfl, _⟩ := hv.any
  obtain ⟨W0, hW0⟩ : ∃ W, W = ((w.alloc (.cells #[.int .i64 0, .int .i64 0, .bool false] 45)).alloc (.cells #[.int .i64 0, .int .i64 0, .bool false] 45)).alloc (.cells #[.int .i64 0, .int .i64 0, .bool false] 45) := ⟨_, rfl⟩
  have hb0 : Below w.heap.size w W0 := by rw [hW0]; exact (((Below.refl _ _).alloc (Nat.le_refl _) _).alloc (by simp) _).alloc (by simp; omega) _
  have hz0 : W0.heap.size = w.heap.size + 3 := by rw [hW0]; simp
  have ha0 : W0.heap[(w.heap.size + 1)]? = some (.cells #[.int .i64 0, .int .i64 0, .bool false] 45 (0, 0)) := by rw [hW0]; exact (Below.heap_alloc _ _ _ (by simp)).trans (by simpa using heap_alloc_new (w.alloc (.cells #[.int .i64 0, .int .i64 0, .bool false] 45)) _)
  have hr00 : W0.heap[w.heap.size]? = some (.cells #[.int .i64 0, .int .i64 0, .bool false] 45 (0, 0)) := by rw [hW0]; exact (Below.heap_alloc _ _ _ (by simp; omega)).trans ((Below.heap_alloc _ _ _ (by simp)).trans (heap_alloc_new w _))
  have hn00 : W0.heap[w.heap.size + 2]? = some (.cells #[.int .i64 0, .int .i64 0, .bool false] 45 (0, 0)) := by rw [hW0]; simpa using heap_alloc_new ((w.alloc (.cells #[.int .i64 0, .int .i64 0, .bool false] 45)).alloc (.cells #[.int .i64 0, .int .i64 0, .bool false] 45)) (.cells #[.int .i64 0, .int .i64 0, .bool false] 45)
  have h0 : TakeRelhead w fs.length ok rows S (.slice p l.length cap) (.int .i64 (0 : Nat)) W0 := ⟨0, by omega, rfl, by rw [hr0]; exact hv, hb0, hS0 W0 hb0 ha0, fun j hj => by omega, by omega, hr00, hn00⟩
  have H0 := Lib.hid h0; have HW0 := Lib.hid hW0; have HP := Lib.hid hP; have HEND := Lib.hid hEnd; have HOUT := Lib.hid hOut; have HG1 := Lib.hid hg1; have HG2 := Lib.hid hg2; have HG3 := Lib.hid hg3; have HROW := Lib.hid hrow; have HENT := Lib.hid hent
  obtain ⟨N, hN⟩ : ∃ N, N = fs.length := ⟨_, rfl⟩
  rw [← hN]
  have hN4 : (N : Int) ≤ 4 := by omega
  have HN := Lib.hid hN
  clear hv hr0 hS0 hP hEnd hOut hg1 hg2 hg3 hent hrow h0 hW0 hb0 hz0 ha0 h4 hN hr00 hn00
  go_enter Try.func23, Try.ntmps23
  go_wp2
  rw [← HW0.out]
  go_loopw [0, 16] (fun x i W => TakeRelhead w N ok rows S x i W) (fun _ i _ => 6 - (intOf i).toNat)
  case atStart => rw [HN.out]; exact H0.out
  case round =>
    clear H0 HW0
    obtain ⟨k, hk, rfl, hby, hbel, hst, hoks, hsz, hkr, hkn⟩ := hrel
    obtain ⟨p, cap, rfl, _⟩ := hby.any
    by_cases hlt : k < N
    · have hkf : k < fs.length := by rw [← HN.out]; exact hlt
      obtain ⟨f, hf⟩ : ∃ f, fs[k]? = some f := ⟨_, List.getElem?_eq_getElem hkf⟩
      have hpart := HP.out k f hf
      have hent := hpart.enter
      have hcell := (hbel.cell (p := ⟨rb, k, none⟩) hrb).trans (HROW.out k f hf)
      have HBY := Lib.hid hby; have HB := Lib.hid hbel; have HST := Lib.hid hst; have HOKS := Lib.hid hoks; have HPART := Lib.hid hpart; have HK := Lib.hid hlt; have HSZ := Lib.hid hsz
      have HKR := Lib.hid hkr; have HKN := Lib.hid hkn
      clear hby hbel hst hoks hpart hkf hf hk hsz hkr hkn
      go_wp2_with fail
      refine (HPART.out.takes _ wr HBY.out HB.out HST.out).mono ?_
      rintro e w1 ⟨v1, rfl, honly, hnext⟩
      generalize hok : ok k = o at *
      have hbel1 : Below w.heap.size w w1 := Below.only HB.out (by omega) (by have := HSZ.out; omega) honly
      have hsz1 : w.heap.size + 3 ≤ w1.heap.size := Nat.le_trans HSZ.out honly.size
      have hr1 : w1.heap[w.heap.size]? = some (.cells #[.int .i64 0, .int .i64 0, .bool false] 45 (0, 0)) := (honly.block w.heap.size (by have := HSZ.out; omega) (by omega)).trans HKR.out
      have hn1 : w1.heap[(w.heap.size + 2)]? = some (.cells #[.int .i64 0, .int .i64 0, .bool false] 45 (0, 0)) := (honly.block (w.heap.size + 2) (by have := HSZ.out; omega) (by omega)).trans HKN.out
      cases o with
      | false =>
        have HGOOD : Hid (good = false) := HG1.out k (by rw [← HN.out]; exact HK.out) hok
        have HB1 := Lib.hid hbel1
        clear honly hnext hbel1 hsz1 hok
        have b0 := cells_of hr1 0
        have q0 := free_of hr1 0
        have b1 := cells_of hr1 1
        have q1 := free_of hr1 1
        have b2 := cells_of hr1 2
        have q2 := free_of hr1 2
        have n0 := cells_of hn1 0
        have n1 := cells_of hn1 1
        have n2 := cells_of hn1 2
        have HX := Lib.hid (three_set hr1 (.int .i64 0) (.int .i64 0) (.bool false))
        have HBX := Lib.hid (three_below (A := w.heap.size) HB1.out (Nat.le_refl _) (.int .i64 0) (.int .i64 0) (.bool false))
        clear hr1 hn1 HBY
        go_wp2
        exact bodyPost_ret (take_head_ret rfl rfl HX.out rfl) rfl ⟨HBX.out, .inr ⟨HGOOD.out, rfl⟩⟩
      | true =>
        obtain ⟨hby1, hst1⟩ := hnext rfl
        have hrel2 : TakeRelhead w N ok rows S v1 (.int .i64 (k + 1 : Nat)) w1 := ⟨k + 1, HK.out, rfl, hby1, hbel1, hst1, fun j hj => by
          by_cases h : j < k
          · exact HOKS.out j h
          · obtain rfl : j = k := by omega
            exact hok, hsz1, hr1, hn1⟩
        have HR := Lib.hid hrel2
        clear hby1 hst1 honly hnext hbel1 hsz1 hok hrel2 hr1 hn1
        go_wp2
        go_roundw
        case rel => exact HR.out
        case measure => simp [intOf]; omega
    · obtain rfl : k = N := by omega
      have hend := HEND.out wr (by rw [← HN.out]; exact hst) (fun j hj => hoks j (by rw [HN.out]; exact hj))
      obtain ⟨x0, x1, x2, hA, hmay, hout⟩ := hend
      have HB := Lib.hid hbel; have HO := Lib.hid hout; have HSZ := Lib.hid hsz
      have HOKS : Hid (∀ j, j < fs.length → ok j = true) := fun j hj => hoks j (by rw [HN.out]; exact hj)
      have HMAY : Hid (rows k = [] → MayPart mf (.agg #[.int .i64 x0, .int .i64 x1, .bool x2]) q) := by rw [HN.out]; exact hmay
      have HNE : Hid (rows k ≠ [] → good = false) := by rw [HN.out]; exact HG2.out
      have HEQ : Hid (rows k = [] → good = q) := by rw [HN.out]; exact HG3.out HOKS.out
      clear hmay hout hbel hst hoks hsz
      by_cases hnil : rows k = []
      · have hm := HMAY.out hnil
        have hsay := Lib.hid (hm.says wr)
        have hent := hm.enter
        have HGQ : Hid (good = q) := HEQ.out hnil
        have hl0 : (rows k).length = 0 := by rw [hnil]; rfl
        have HA := Lib.hid hA
        have c0 := cells_of HA.out 0; have c1 := cells_of HA.out 1; have c2 := cells_of HA.out 2
        rw [hl0]
        clear hm hnil hl0 hA hby
        go_wp2_with fail
        refine hsay.out.mono ?_
        rintro e w1 ⟨rfl, hb1⟩
        have hbel1 : Below w.heap.size w w1 := HB.out.trans (hb1.mono (by have := HSZ.out; omega))
        have hr1 : w1.heap[w.heap.size]? = some (.cells #[.int .i64 0, .int .i64 0, .bool false] 45 (0, 0)) := (hb1.block w.heap.size (by have := HSZ.out; omega)).trans hkr
        have hn1 : w1.heap[(w.heap.size + 2)]? = some (.cells #[.int .i64 0, .int .i64 0, .bool false] 45 (0, 0)) := (hb1.block (w.heap.size + 2) (by have := HSZ.out; omega)).trans hkn
        cases q with
        | false =>
          have HB1 := Lib.hid hbel1
          have HGOOD : Hid (good = false) := HGQ.out
          clear hbel1 hb1
          have b0 := cells_of hr1 0
          have q0 := free_of hr1 0
          have b1 := cells_of hr1 1
          have q1 := free_of hr1 1
          have b2 := cells_of hr1 2
          have q2 := free_of hr1 2
          have n0 := cells_of hn1 0
          have n1 := cells_of hn1 1
          have n2 := cells_of hn1 2
          have HX := Lib.hid (three_set hr1 (.int .i64 0) (.int .i64 0) (.bool false))
          have HBX := Lib.hid (three_below (A := w.heap.size) HB1.out (Nat.le_refl _) (.int .i64 0) (.int .i64 0) (.bool false))
          clear hr1 hn1 HMAY
          go_wp2
          exact bodyPost_ret (take_head_ret rfl rfl HX.out rfl) rfl ⟨HBX.out, .inr ⟨HGOOD.out, rfl⟩⟩
        | true =>
          have hA1 : w1.heap[(w.heap.size + 1)]? = some (.cells #[.int .i64 x0, .int .i64 x1, .bool x2] 45 (0, 0)) := (hb1.block (w.heap.size + 1) (by have := HSZ.out; omega)).trans HA.out
          have HGOOD : Hid (good = true) := HGQ.out
          have HB1 := Lib.hid hbel1
          have b0 := cells_of hr1 0
          have q0 := free_of hr1 0
          have b1 := cells_of hr1 1
          have q1 := free_of hr1 1
          have b2 := cells_of hr1 2
          have q2 := free_of hr1 2
          have n0 := cells_of hA1 0
          have n1 := cells_of hA1 1
          have n2 := cells_of hA1 2
          have HX := Lib.hid (three_set hr1 (.int .i64 x0) (.int .i64 x1) (.bool x2))
          have HBX := Lib.hid (three_below (A := w.heap.size) HB1.out (Nat.le_refl _) (.int .i64 x0) (.int .i64 x1) (.bool x2))
          have HOX := Lib.hid (HOUT.out x0 x1 x2 _ _ HO.out hkr ((Only.of_below hb1).trans (((Only.set w.heap.size 0 w1 (.int .i64 x0)).trans (Only.set w.heap.size 1 _ (.int .i64 x1))).trans (Only.set w.heap.size 2 _ (.bool x2)))))
          clear hr1 hn1 hA1 hb1 hbel1
          go_wp2
          exact bodyPost_ret (take_head_ret rfl rfl HX.out rfl) rfl ⟨HBX.out, .inl ⟨HGOOD.out, x0, x1, x2, rfl, HOX.out⟩⟩
      · have hl0 : 0 < (rows k).length := List.length_pos_iff.2 hnil
        have HGOOD : Hid (good = false) := HNE.out hnil
        have hl1 : ¬ (((rows k).length : Int) ≤ 0) := by omega
        have hbel1 := HB.out
        have hr1 := hkr; have hn1 := hkn; have HB1 := Lib.hid hbel1
        clear hnil hA
        have b0 := cells_of hr1 0
        have q0 := free_of hr1 0
        have b1 := cells_of hr1 1
        have q1 := free_of hr1 1
        have b2 := cells_of hr1 2
        have q2 := free_of hr1 2
        have n0 := cells_of hn1 0
        have n1 := cells_of hn1 1
        have n2 := cells_of hn1 2
        have HX := Lib.hid (three_set hr1 (.int .i64 0) (.int .i64 0) (.bool false))
        have HBX := Lib.hid (three_below (A := w.heap.size) HB1.out (Nat.le_refl _) (.int .i64 0) (.int .i64 0) (.bool false))
        clear hr1 hn1 hbel1
        go_wp2
        exact bodyPost_ret (take_head_ret rfl rfl HX.out rfl) rfl ⟨HBX.out, .inr ⟨HGOOD.out, rfl⟩⟩

theorem take_done_ret {tmps : Array Value} {w : World} {A : Nat} {cs : Array Value} {x : Value} (hp : tmps.getD 6 undef = .pointer (some ⟨A, 0, none⟩)) (hx : tmps.getD 7 undef = x) (hg : w.heap[A]? = some (.cells cs 54 (0, 0))) (hc : cs.size = 3) :
    (results Try.f29 tmps).run Try.prog w = .ok (.tuple #[.agg cs, x]) w := by
  have hi : (Try.prog.info? 54).map (·.size) = some cs.size := by rw [hc]; kernel_rfl
  have hq : (Try.prog.underlying 54).map (fun d => match d with | .struct _ | .array _ _ => true | _ => false) = some true := by kernel_rfl
  obtain ⟨d, hu, hd⟩ := Option.map_eq_some_iff.1 hq
  rw [results_cell_tmp (p := 6) (u := 7) (ty := 54) (by kernel_rfl), hp, hx]
  have := run_loadVar_row (P := Try.prog) w A 54 54 cs (0, 0) d hg hu (by cases d <;> simp_all) hi
  simp [asAddr, this, Result.andThen]

def TakeReldone (w : World) (n : Nat) (ok : Nat → Bool) (rows : Nat → List Nat) (S : Nat → World → Prop) (x i : Value) (W : World) : Prop :=
  ∃ (k : Nat), k ≤ n ∧ i = .int .i64 k ∧ Bytes w x (rows k) ∧ Below w.heap.size w W ∧ S k W ∧ (∀ j, j < k → ok j = true) ∧ w.heap.size + 3 ≤ W.heap.size ∧ W.heap[w.heap.size]? = some (.cells #[.int .i64 0, .int .i64 0, .bool false] 54 (0, 0)) ∧ W.heap[(w.heap.size + 2)]? = some (.cells #[.int .i64 0, .int .i64 0, .bool false] 54 (0, 0))
set_option maxRecDepth 100000 in
theorem take_done (v : Value) (l : List Nat) (mf : FuncId) (q good : Bool) (fs : List FuncId) (ok : Nat → Bool) (rows : Nat → List Nat) (S : Nat → World → Prop) (Out : Int → Int → Bool →  World → Prop) (rb : Nat) (w : World) (hv : Bytes w v l) (h4 : fs.length ≤ 4) (hr0 : rows 0 = l)
    (hS0 : ∀ W, Below w.heap.size w W → W.heap[(w.heap.size + 1)]? = some (.cells #[.int .i64 0, .int .i64 0, .bool false] 54 (0, 0)) → S 0 W)
    (hP : ∀ (i : Nat) f, fs[i]? = some f → TakePart w (w.heap.size + 1) f (ok i) (rows i) (rows (i + 1)) (S i) (S (i + 1)))
    (hEnd : ∀ W, S fs.length W → (∀ j, j < fs.length → ok j = true) → ∃ x0 x1 x2,  W.heap[(w.heap.size + 1)]? = some (.cells #[.int .i64 x0, .int .i64 x1, .bool x2] 54 (0, 0)) ∧ (rows fs.length = [] → MayPart mf (.agg #[.int .i64 x0, .int .i64 x1, .bool x2]) q) ∧ Out x0 x1 x2 W)
    (hOut : ∀ (x0 : Int) (x1 : Int) (x2 : Bool) W W', Out x0 x1 x2 W → W.heap[w.heap.size]? = some (.cells #[.int .i64 0, .int .i64 0, .bool false] 54 (0, 0)) → Only w.heap.size W W' → Out x0 x1 x2 W')
    (hg1 : ∀ j, j < fs.length → ok j = false → good = false) (hg2 : rows fs.length ≠ [] → good = false) (hg3 : (∀ j, j < fs.length → ok j = true) → rows fs.length = [] → good = q)
    (hent : ∀ args w, (callFunc mf args).run Try.prog w = .ok (.enter mf args) w)
    (hrow : ∀ (i : Nat) f, fs[i]? = some f → w.cell? ⟨rb, i, none⟩ = some (.func (.func f) #[] #[])) (hrb : rb < w.heap.size) :
    Calls Try.prog 29 #[v, .func (.func mf) #[] #[], .slice (some ⟨rb, 0, none⟩) fs.length fs.length] w fun z w' => Below w.heap.size w w' ∧ ((good = true ∧ ∃ x0 x1 x2,  z = .returned (.tuple #[.agg #[.int .i64 x0, .int .i64 x1, .bool x2], .int .i64 0]) ∧ Out x0 x1 x2 w') ∨ (good = false ∧ z = .returned (.tuple #[.agg #[.int .i64 0, .int .i64 0, .bool false], .int .i64 2]))) := by
  obtain ⟨p, cap, rfl, _⟩ := hv.any
  obtain ⟨W0, hW0⟩ : ∃ W, W = ((w.alloc (.cells #[.int .i64 0, .int .i64 0, .bool false] 54)).alloc (.cells #[.int .i64 0, .int .i64 0, .bool false] 54)).alloc (.cells #[.int .i64 0, .int .i64 0, .bool false] 54) := ⟨_, rfl⟩
  have hb0 : Below w.heap.size w W0 := by rw [hW0]; exact (((Below.refl _ _).alloc (Nat.le_refl _) _).alloc (by simp) _).alloc (by simp; omega) _
  have hz0 : W0.heap.size = w.heap.size + 3 := by rw [hW0]; simp
  have ha0 : W0.heap[(w.heap.size + 1)]? = some (.cells #[.int .i64 0, .int .i64 0, .bool false] 54 (0, 0)) := by rw [hW0]; exact (Below.heap_alloc _ _ _ (by simp)).trans (by simpa using heap_alloc_new (w.alloc (.cells #[.int .i64 0, .int .i64 0, .bool false] 54)) _)
  have hr00 : W0.heap[w.heap.size]? = some (.cells #[.int .i64 0, .int .i64 0, .bool false] 54 (0, 0)) := by rw [hW0]; exact (Below.heap_alloc _ _ _ (by simp; omega)).trans ((Below.heap_alloc _ _ _ (by simp)).trans (heap_alloc_new w _))
  have hn00 : W0.heap[w.heap.size + 2]? = some (.cells #[.int .i64 0, .int .i64 0, .bool false] 54 (0, 0)) := by rw [hW0]; simpa using heap_alloc_new ((w.alloc (.cells #[.int .i64 0, .int .i64 0, .bool false] 54)).alloc (.cells #[.int .i64 0, .int .i64 0, .bool false] 54)) (.cells #[.int .i64 0, .int .i64 0, .bool false] 54)
  have h0 : TakeReldone w fs.length ok rows S (.slice p l.length cap) (.int .i64 (0 : Nat)) W0 := ⟨0, by omega, rfl, by rw [hr0]; exact hv, hb0, hS0 W0 hb0 ha0, fun j hj => by omega, by omega, hr00, hn00⟩
  have H0 := Lib.hid h0; have HW0 := Lib.hid hW0; have HP := Lib.hid hP; have HEND := Lib.hid hEnd; have HOUT := Lib.hid hOut; have HG1 := Lib.hid hg1; have HG2 := Lib.hid hg2; have HG3 := Lib.hid hg3; have HROW := Lib.hid hrow; have HENT := Lib.hid hent
  obtain ⟨N, hN⟩ : ∃ N, N = fs.length := ⟨_, rfl⟩
  rw [← hN]
  have hN4 : (N : Int) ≤ 4 := by omega
  have HN := Lib.hid hN
  clear hv hr0 hS0 hP hEnd hOut hg1 hg2 hg3 hent hrow h0 hW0 hb0 hz0 ha0 h4 hN hr00 hn00
  go_enter Try.func29, Try.ntmps29
  go_wp2
  rw [← HW0.out]
  go_loopw [0, 16] (fun x i W => TakeReldone w N ok rows S x i W) (fun _ i _ => 6 - (intOf i).toNat)
  case atStart => rw [HN.out]; exact H0.out
  case round =>
    clear H0 HW0
    obtain ⟨k, hk, rfl, hby, hbel, hst, hoks, hsz, hkr, hkn⟩ := hrel
    obtain ⟨p, cap, rfl, _⟩ := hby.any
    by_cases hlt : k < N
    · have hkf : k < fs.length := by rw [← HN.out]; exact hlt
      obtain ⟨f, hf⟩ : ∃ f, fs[k]? = some f := ⟨_, List.getElem?_eq_getElem hkf⟩
      have hpart := HP.out k f hf
      have hent := hpart.enter
      have hcell := (hbel.cell (p := ⟨rb, k, none⟩) hrb).trans (HROW.out k f hf)
      have HBY := Lib.hid hby; have HB := Lib.hid hbel; have HST := Lib.hid hst; have HOKS := Lib.hid hoks; have HPART := Lib.hid hpart; have HK := Lib.hid hlt; have HSZ := Lib.hid hsz
      have HKR := Lib.hid hkr; have HKN := Lib.hid hkn
      clear hby hbel hst hoks hpart hkf hf hk hsz hkr hkn
      go_wp2_with fail
      refine (HPART.out.takes _ wr HBY.out HB.out HST.out).mono ?_
      rintro e w1 ⟨v1, rfl, honly, hnext⟩
      generalize hok : ok k = o at *
      have hbel1 : Below w.heap.size w w1 := Below.only HB.out (by omega) (by have := HSZ.out; omega) honly
      have hsz1 : w.heap.size + 3 ≤ w1.heap.size := Nat.le_trans HSZ.out honly.size
      have hr1 : w1.heap[w.heap.size]? = some (.cells #[.int .i64 0, .int .i64 0, .bool false] 54 (0, 0)) := (honly.block w.heap.size (by have := HSZ.out; omega) (by omega)).trans HKR.out
      have hn1 : w1.heap[(w.heap.size + 2)]? = some (.cells #[.int .i64 0, .int .i64 0, .bool false] 54 (0, 0)) := (honly.block (w.heap.size + 2) (by have := HSZ.out; omega) (by omega)).trans HKN.out
      cases o with
      | false =>
        have HGOOD : Hid (good = false) := HG1.out k (by rw [← HN.out]; exact HK.out) hok
        have HB1 := Lib.hid hbel1
        clear honly hnext hbel1 hsz1 hok
        have b0 := cells_of hr1 0
        have q0 := free_of hr1 0
        have b1 := cells_of hr1 1
        have q1 := free_of hr1 1
        have b2 := cells_of hr1 2
        have q2 := free_of hr1 2
        have n0 := cells_of hn1 0
        have n1 := cells_of hn1 1
        have n2 := cells_of hn1 2
        have HX := Lib.hid (three_set hr1 (.int .i64 0) (.int .i64 0) (.bool false))
        have HBX := Lib.hid (three_below (A := w.heap.size) HB1.out (Nat.le_refl _) (.int .i64 0) (.int .i64 0) (.bool false))
        clear hr1 hn1 HBY
        go_wp2
        exact bodyPost_ret (take_done_ret rfl rfl HX.out rfl) rfl ⟨HBX.out, .inr ⟨HGOOD.out, rfl⟩⟩
      | true =>
        obtain ⟨hby1, hst1⟩ := hnext rfl
        have hrel2 : TakeReldone w N ok rows S v1 (.int .i64 (k + 1 : Nat)) w1 := ⟨k + 1, HK.out, rfl, hby1, hbel1, hst1, fun j hj => by
          by_cases h : j < k
          · exact HOKS.out j h
          · obtain rfl : j = k := by omega
            exact hok, hsz1, hr1, hn1⟩
        have HR := Lib.hid hrel2
        clear hby1 hst1 honly hnext hbel1 hsz1 hok hrel2 hr1 hn1
        go_wp2
        go_roundw
        case rel => exact HR.out
        case measure => simp [intOf]; omega
    · obtain rfl : k = N := by omega
      have hend := HEND.out wr (by rw [← HN.out]; exact hst) (fun j hj => hoks j (by rw [HN.out]; exact hj))
      obtain ⟨x0, x1, x2, hA, hmay, hout⟩ := hend
      have HB := Lib.hid hbel; have HO := Lib.hid hout; have HSZ := Lib.hid hsz
      have HOKS : Hid (∀ j, j < fs.length → ok j = true) := fun j hj => hoks j (by rw [HN.out]; exact hj)
      have HMAY : Hid (rows k = [] → MayPart mf (.agg #[.int .i64 x0, .int .i64 x1, .bool x2]) q) := by rw [HN.out]; exact hmay
      have HNE : Hid (rows k ≠ [] → good = false) := by rw [HN.out]; exact HG2.out
      have HEQ : Hid (rows k = [] → good = q) := by rw [HN.out]; exact HG3.out HOKS.out
      clear hmay hout hbel hst hoks hsz
      by_cases hnil : rows k = []
      · have hm := HMAY.out hnil
        have hsay := Lib.hid (hm.says wr)
        have hent := hm.enter
        have HGQ : Hid (good = q) := HEQ.out hnil
        have hl0 : (rows k).length = 0 := by rw [hnil]; rfl
        have HA := Lib.hid hA
        have c0 := cells_of HA.out 0; have c1 := cells_of HA.out 1; have c2 := cells_of HA.out 2
        rw [hl0]
        clear hm hnil hl0 hA hby
        go_wp2_with fail
        refine hsay.out.mono ?_
        rintro e w1 ⟨rfl, hb1⟩
        have hbel1 : Below w.heap.size w w1 := HB.out.trans (hb1.mono (by have := HSZ.out; omega))
        have hr1 : w1.heap[w.heap.size]? = some (.cells #[.int .i64 0, .int .i64 0, .bool false] 54 (0, 0)) := (hb1.block w.heap.size (by have := HSZ.out; omega)).trans hkr
        have hn1 : w1.heap[(w.heap.size + 2)]? = some (.cells #[.int .i64 0, .int .i64 0, .bool false] 54 (0, 0)) := (hb1.block (w.heap.size + 2) (by have := HSZ.out; omega)).trans hkn
        cases q with
        | false =>
          have HB1 := Lib.hid hbel1
          have HGOOD : Hid (good = false) := HGQ.out
          clear hbel1 hb1
          have b0 := cells_of hr1 0
          have q0 := free_of hr1 0
          have b1 := cells_of hr1 1
          have q1 := free_of hr1 1
          have b2 := cells_of hr1 2
          have q2 := free_of hr1 2
          have n0 := cells_of hn1 0
          have n1 := cells_of hn1 1
          have n2 := cells_of hn1 2
          have HX := Lib.hid (three_set hr1 (.int .i64 0) (.int .i64 0) (.bool false))
          have HBX := Lib.hid (three_below (A := w.heap.size) HB1.out (Nat.le_refl _) (.int .i64 0) (.int .i64 0) (.bool false))
          clear hr1 hn1 HMAY
          go_wp2
          exact bodyPost_ret (take_done_ret rfl rfl HX.out rfl) rfl ⟨HBX.out, .inr ⟨HGOOD.out, rfl⟩⟩
        | true =>
          have hA1 : w1.heap[(w.heap.size + 1)]? = some (.cells #[.int .i64 x0, .int .i64 x1, .bool x2] 54 (0, 0)) := (hb1.block (w.heap.size + 1) (by have := HSZ.out; omega)).trans HA.out
          have HGOOD : Hid (good = true) := HGQ.out
          have HB1 := Lib.hid hbel1
          have b0 := cells_of hr1 0
          have q0 := free_of hr1 0
          have b1 := cells_of hr1 1
          have q1 := free_of hr1 1
          have b2 := cells_of hr1 2
          have q2 := free_of hr1 2
          have n0 := cells_of hA1 0
          have n1 := cells_of hA1 1
          have n2 := cells_of hA1 2
          have HX := Lib.hid (three_set hr1 (.int .i64 x0) (.int .i64 x1) (.bool x2))
          have HBX := Lib.hid (three_below (A := w.heap.size) HB1.out (Nat.le_refl _) (.int .i64 x0) (.int .i64 x1) (.bool x2))
          have HOX := Lib.hid (HOUT.out x0 x1 x2 _ _ HO.out hkr ((Only.of_below hb1).trans (((Only.set w.heap.size 0 w1 (.int .i64 x0)).trans (Only.set w.heap.size 1 _ (.int .i64 x1))).trans (Only.set w.heap.size 2 _ (.bool x2)))))
          clear hr1 hn1 hA1 hb1 hbel1
          go_wp2
          exact bodyPost_ret (take_done_ret rfl rfl HX.out rfl) rfl ⟨HBX.out, .inl ⟨HGOOD.out, x0, x1, x2, rfl, HOX.out⟩⟩
      · have hl0 : 0 < (rows k).length := List.length_pos_iff.2 hnil
        have HGOOD : Hid (good = false) := HNE.out hnil
        have hl1 : ¬ (((rows k).length : Int) ≤ 0) := by omega
        have hbel1 := HB.out
        have hr1 := hkr; have hn1 := hkn; have HB1 := Lib.hid hbel1
        clear hnil hA
        have b0 := cells_of hr1 0
        have q0 := free_of hr1 0
        have b1 := cells_of hr1 1
        have q1 := free_of hr1 1
        have b2 := cells_of hr1 2
        have q2 := free_of hr1 2
        have n0 := cells_of hn1 0
        have n1 := cells_of hn1 1
        have n2 := cells_of hn1 2
        have HX := Lib.hid (three_set hr1 (.int .i64 0) (.int .i64 0) (.bool false))
        have HBX := Lib.hid (three_below (A := w.heap.size) HB1.out (Nat.le_refl _) (.int .i64 0) (.int .i64 0) (.bool false))
        clear hr1 hn1 hbel1
        go_wp2
        exact bodyPost_ret (take_done_ret rfl rfl HX.out rfl) rfl ⟨HBX.out, .inr ⟨HGOOD.out, rfl⟩⟩

theorem take_mark_ret {tmps : Array Value} {w : World} {A : Nat} {cs : Array Value} {x : Value} (hp : tmps.getD 6 undef = .pointer (some ⟨A, 0, none⟩)) (hx : tmps.getD 7 undef = x) (hg : w.heap[A]? = some (.cells cs 60 (0, 0))) (hc : cs.size = 2) :
    (results Try.f33 tmps).run Try.prog w = .ok (.tuple #[.agg cs, x]) w := by
  have hi : (Try.prog.info? 60).map (·.size) = some cs.size := by rw [hc]; kernel_rfl
  have hq : (Try.prog.underlying 60).map (fun d => match d with | .struct _ | .array _ _ => true | _ => false) = some true := by kernel_rfl
  obtain ⟨d, hu, hd⟩ := Option.map_eq_some_iff.1 hq
  rw [results_cell_tmp (p := 6) (u := 7) (ty := 60) (by kernel_rfl), hp, hx]
  have := run_loadVar_row (P := Try.prog) w A 60 60 cs (0, 0) d hg hu (by cases d <;> simp_all) hi
  simp [asAddr, this, Result.andThen]

def TakeRelmark (w : World) (n : Nat) (ok : Nat → Bool) (rows : Nat → List Nat) (S : Nat → World → Prop) (x i : Value) (W : World) : Prop :=
  ∃ (k : Nat), k ≤ n ∧ i = .int .i64 k ∧ Bytes w x (rows k) ∧ Below w.heap.size w W ∧ S k W ∧ (∀ j, j < k → ok j = true) ∧ w.heap.size + 3 ≤ W.heap.size ∧ W.heap[w.heap.size]? = some (.cells #[.int .i64 0, .slice none 0 0] 60 (0, 0)) ∧ W.heap[(w.heap.size + 2)]? = some (.cells #[.int .i64 0, .slice none 0 0] 60 (0, 0))
set_option maxRecDepth 100000 in
theorem take_mark (v : Value) (l : List Nat) (mf : FuncId) (q good : Bool) (fs : List FuncId) (ok : Nat → Bool) (rows : Nat → List Nat) (S : Nat → World → Prop) (Out : Int → Option Addr → Nat → Nat →  World → Prop) (rb : Nat) (w : World) (hv : Bytes w v l) (h4 : fs.length ≤ 4) (hr0 : rows 0 = l)
    (hS0 : ∀ W, Below w.heap.size w W → W.heap[(w.heap.size + 1)]? = some (.cells #[.int .i64 0, .slice none 0 0] 60 (0, 0)) → S 0 W)
    (hP : ∀ (i : Nat) f, fs[i]? = some f → TakePart w (w.heap.size + 1) f (ok i) (rows i) (rows (i + 1)) (S i) (S (i + 1)))
    (hEnd : ∀ W, S fs.length W → (∀ j, j < fs.length → ok j = true) → ∃ x0 p9 k9 g9,  W.heap[(w.heap.size + 1)]? = some (.cells #[.int .i64 x0, .slice p9 k9 g9] 60 (0, 0)) ∧ (rows fs.length = [] → MayPart mf (.agg #[.int .i64 x0, .slice p9 k9 g9]) q) ∧ Out x0 p9 k9 g9 W)
    (hOut : ∀ (x0 : Int) (p9 : Option Addr) (k9 : Nat) (g9 : Nat) W W', Out x0 p9 k9 g9 W → W.heap[w.heap.size]? = some (.cells #[.int .i64 0, .slice none 0 0] 60 (0, 0)) → Only w.heap.size W W' → Out x0 p9 k9 g9 W')
    (hg1 : ∀ j, j < fs.length → ok j = false → good = false) (hg2 : rows fs.length ≠ [] → good = false) (hg3 : (∀ j, j < fs.length → ok j = true) → rows fs.length = [] → good = q)
    (hent : ∀ args w, (callFunc mf args).run Try.prog w = .ok (.enter mf args) w)
    (hrow : ∀ (i : Nat) f, fs[i]? = some f → w.cell? ⟨rb, i, none⟩ = some (.func (.func f) #[] #[])) (hrb : rb < w.heap.size) :
    Calls Try.prog 33 #[v, .func (.func mf) #[] #[], .slice (some ⟨rb, 0, none⟩) fs.length fs.length] w fun z w' => Below w.heap.size w w' ∧ ((good = true ∧ ∃ x0 p9 k9 g9,  z = .returned (.tuple #[.agg #[.int .i64 x0, .slice p9 k9 g9], .int .i64 0]) ∧ Out x0 p9 k9 g9 w') ∨ (good = false ∧ z = .returned (.tuple #[.agg #[.int .i64 0, .slice none 0 0], .int .i64 2]))) := by
  obtain ⟨p, cap, rfl, _⟩ := hv.any
  obtain ⟨W0, hW0⟩ : ∃ W, W = ((w.alloc (.cells #[.int .i64 0, .slice none 0 0] 60)).alloc (.cells #[.int .i64 0, .slice none 0 0] 60)).alloc (.cells #[.int .i64 0, .slice none 0 0] 60) := ⟨_, rfl⟩
  have hb0 : Below w.heap.size w W0 := by rw [hW0]; exact (((Below.refl _ _).alloc (Nat.le_refl _) _).alloc (by simp) _).alloc (by simp; omega) _
  have hz0 : W0.heap.size = w.heap.size + 3 := by rw [hW0]; simp
  have ha0 : W0.heap[(w.heap.size + 1)]? = some (.cells #[.int .i64 0, .slice none 0 0] 60 (0, 0)) := by rw [hW0]; exact (Below.heap_alloc _ _ _ (by simp)).trans (by simpa using heap_alloc_new (w.alloc (.cells #[.int .i64 0, .slice none 0 0] 60)) _)
  have hr00 : W0.heap[w.heap.size]? = some (.cells #[.int .i64 0, .slice none 0 0] 60 (0, 0)) := by rw [hW0]; exact (Below.heap_alloc _ _ _ (by simp; omega)).trans ((Below.heap_alloc _ _ _ (by simp)).trans (heap_alloc_new w _))
  have hn00 : W0.heap[w.heap.size + 2]? = some (.cells #[.int .i64 0, .slice none 0 0] 60 (0, 0)) := by rw [hW0]; simpa using heap_alloc_new ((w.alloc (.cells #[.int .i64 0, .slice none 0 0] 60)).alloc (.cells #[.int .i64 0, .slice none 0 0] 60)) (.cells #[.int .i64 0, .slice none 0 0] 60)
  have h0 : TakeRelmark w fs.length ok rows S (.slice p l.length cap) (.int .i64 (0 : Nat)) W0 := ⟨0, by omega, rfl, by rw [hr0]; exact hv, hb0, hS0 W0 hb0 ha0, fun j hj => by omega, by omega, hr00, hn00⟩
  have H0 := Lib.hid h0; have HW0 := Lib.hid hW0; have HP := Lib.hid hP; have HEND := Lib.hid hEnd; have HOUT := Lib.hid hOut; have HG1 := Lib.hid hg1; have HG2 := Lib.hid hg2; have HG3 := Lib.hid hg3; have HROW := Lib.hid hrow; have HENT := Lib.hid hent
  obtain ⟨N, hN⟩ : ∃ N, N = fs.length := ⟨_, rfl⟩
  rw [← hN]
  have hN4 : (N : Int) ≤ 4 := by omega
  have HN := Lib.hid hN
  clear hv hr0 hS0 hP hEnd hOut hg1 hg2 hg3 hent hrow h0 hW0 hb0 hz0 ha0 h4 hN hr00 hn00
  go_enter Try.func33, Try.ntmps33
  go_wp2
  rw [← HW0.out]
  go_loopw [0, 16] (fun x i W => TakeRelmark w N ok rows S x i W) (fun _ i _ => 6 - (intOf i).toNat)
  case atStart => rw [HN.out]; exact H0.out
  case round =>
    clear H0 HW0
    obtain ⟨k, hk, rfl, hby, hbel, hst, hoks, hsz, hkr, hkn⟩ := hrel
    obtain ⟨p, cap, rfl, _⟩ := hby.any
    by_cases hlt : k < N
    · have hkf : k < fs.length := by rw [← HN.out]; exact hlt
      obtain ⟨f, hf⟩ : ∃ f, fs[k]? = some f := ⟨_, List.getElem?_eq_getElem hkf⟩
      have hpart := HP.out k f hf
      have hent := hpart.enter
      have hcell := (hbel.cell (p := ⟨rb, k, none⟩) hrb).trans (HROW.out k f hf)
      have HBY := Lib.hid hby; have HB := Lib.hid hbel; have HST := Lib.hid hst; have HOKS := Lib.hid hoks; have HPART := Lib.hid hpart; have HK := Lib.hid hlt; have HSZ := Lib.hid hsz
      have HKR := Lib.hid hkr; have HKN := Lib.hid hkn
      clear hby hbel hst hoks hpart hkf hf hk hsz hkr hkn
      go_wp2_with fail
      refine (HPART.out.takes _ wr HBY.out HB.out HST.out).mono ?_
      rintro e w1 ⟨v1, rfl, honly, hnext⟩
      generalize hok : ok k = o at *
      have hbel1 : Below w.heap.size w w1 := Below.only HB.out (by omega) (by have := HSZ.out; omega) honly
      have hsz1 : w.heap.size + 3 ≤ w1.heap.size := Nat.le_trans HSZ.out honly.size
      have hr1 : w1.heap[w.heap.size]? = some (.cells #[.int .i64 0, .slice none 0 0] 60 (0, 0)) := (honly.block w.heap.size (by have := HSZ.out; omega) (by omega)).trans HKR.out
      have hn1 : w1.heap[(w.heap.size + 2)]? = some (.cells #[.int .i64 0, .slice none 0 0] 60 (0, 0)) := (honly.block (w.heap.size + 2) (by have := HSZ.out; omega) (by omega)).trans HKN.out
      cases o with
      | false =>
        have HGOOD : Hid (good = false) := HG1.out k (by rw [← HN.out]; exact HK.out) hok
        have HB1 := Lib.hid hbel1
        clear honly hnext hbel1 hsz1 hok
        have b0 := cells_of hr1 0
        have q0 := free_of hr1 0
        have b1 := cells_of hr1 1
        have q1 := free_of hr1 1
        have n0 := cells_of hn1 0
        have n1 := cells_of hn1 1
        have HX := Lib.hid (two_set hr1 (.int .i64 0) (.slice none 0 0))
        have HBX := Lib.hid (two_below (A := w.heap.size) HB1.out (Nat.le_refl _) (.int .i64 0) (.slice none 0 0))
        clear hr1 hn1 HBY
        go_wp2
        exact bodyPost_ret (take_mark_ret rfl rfl HX.out rfl) rfl ⟨HBX.out, .inr ⟨HGOOD.out, rfl⟩⟩
      | true =>
        obtain ⟨hby1, hst1⟩ := hnext rfl
        have hrel2 : TakeRelmark w N ok rows S v1 (.int .i64 (k + 1 : Nat)) w1 := ⟨k + 1, HK.out, rfl, hby1, hbel1, hst1, fun j hj => by
          by_cases h : j < k
          · exact HOKS.out j h
          · obtain rfl : j = k := by omega
            exact hok, hsz1, hr1, hn1⟩
        have HR := Lib.hid hrel2
        clear hby1 hst1 honly hnext hbel1 hsz1 hok hrel2 hr1 hn1
        go_wp2
        go_roundw
        case rel => exact HR.out
        case measure => simp [intOf]; omega
    · obtain rfl : k = N := by omega
      have hend := HEND.out wr (by rw [← HN.out]; exact hst) (fun j hj => hoks j (by rw [HN.out]; exact hj))
      obtain ⟨x0, p9, k9, g9, hA, hmay, hout⟩ := hend
      have HB := Lib.hid hbel; have HO := Lib.hid hout; have HSZ := Lib.hid hsz
      have HOKS : Hid (∀ j, j < fs.length → ok j = true) := fun j hj => hoks j (by rw [HN.out]; exact hj)
      have HMAY : Hid (rows k = [] → MayPart mf (.agg #[.int .i64 x0, .slice p9 k9 g9]) q) := by rw [HN.out]; exact hmay
      have HNE : Hid (rows k ≠ [] → good = false) := by rw [HN.out]; exact HG2.out
      have HEQ : Hid (rows k = [] → good = q) := by rw [HN.out]; exact HG3.out HOKS.out
      clear hmay hout hbel hst hoks hsz
      by_cases hnil : rows k = []
      · have hm := HMAY.out hnil
        have hsay := Lib.hid (hm.says wr)
        have hent := hm.enter
        have HGQ : Hid (good = q) := HEQ.out hnil
        have hl0 : (rows k).length = 0 := by rw [hnil]; rfl
        have HA := Lib.hid hA
        have c0 := cells_of HA.out 0; have c1 := cells_of HA.out 1
        rw [hl0]
        clear hm hnil hl0 hA hby
        go_wp2_with fail
        refine hsay.out.mono ?_
        rintro e w1 ⟨rfl, hb1⟩
        have hbel1 : Below w.heap.size w w1 := HB.out.trans (hb1.mono (by have := HSZ.out; omega))
        have hr1 : w1.heap[w.heap.size]? = some (.cells #[.int .i64 0, .slice none 0 0] 60 (0, 0)) := (hb1.block w.heap.size (by have := HSZ.out; omega)).trans hkr
        have hn1 : w1.heap[(w.heap.size + 2)]? = some (.cells #[.int .i64 0, .slice none 0 0] 60 (0, 0)) := (hb1.block (w.heap.size + 2) (by have := HSZ.out; omega)).trans hkn
        cases q with
        | false =>
          have HB1 := Lib.hid hbel1
          have HGOOD : Hid (good = false) := HGQ.out
          clear hbel1 hb1
          have b0 := cells_of hr1 0
          have q0 := free_of hr1 0
          have b1 := cells_of hr1 1
          have q1 := free_of hr1 1
          have n0 := cells_of hn1 0
          have n1 := cells_of hn1 1
          have HX := Lib.hid (two_set hr1 (.int .i64 0) (.slice none 0 0))
          have HBX := Lib.hid (two_below (A := w.heap.size) HB1.out (Nat.le_refl _) (.int .i64 0) (.slice none 0 0))
          clear hr1 hn1 HMAY
          go_wp2
          exact bodyPost_ret (take_mark_ret rfl rfl HX.out rfl) rfl ⟨HBX.out, .inr ⟨HGOOD.out, rfl⟩⟩
        | true =>
          have hA1 : w1.heap[(w.heap.size + 1)]? = some (.cells #[.int .i64 x0, .slice p9 k9 g9] 60 (0, 0)) := (hb1.block (w.heap.size + 1) (by have := HSZ.out; omega)).trans HA.out
          have HGOOD : Hid (good = true) := HGQ.out
          have HB1 := Lib.hid hbel1
          have b0 := cells_of hr1 0
          have q0 := free_of hr1 0
          have b1 := cells_of hr1 1
          have q1 := free_of hr1 1
          have n0 := cells_of hA1 0
          have n1 := cells_of hA1 1
          have HX := Lib.hid (two_set hr1 (.int .i64 x0) (.slice p9 k9 g9))
          have HBX := Lib.hid (two_below (A := w.heap.size) HB1.out (Nat.le_refl _) (.int .i64 x0) (.slice p9 k9 g9))
          have HOX := Lib.hid (HOUT.out x0 p9 k9 g9 _ _ HO.out hkr ((Only.of_below hb1).trans ((Only.set w.heap.size 0 w1 (.int .i64 x0)).trans (Only.set w.heap.size 1 _ (.slice p9 k9 g9)))))
          clear hr1 hn1 hA1 hb1 hbel1
          go_wp2
          exact bodyPost_ret (take_mark_ret rfl rfl HX.out rfl) rfl ⟨HBX.out, .inl ⟨HGOOD.out, x0, p9, k9, g9, rfl, HOX.out⟩⟩
      · have hl0 : 0 < (rows k).length := List.length_pos_iff.2 hnil
        have HGOOD : Hid (good = false) := HNE.out hnil
        have hl1 : ¬ (((rows k).length : Int) ≤ 0) := by omega
        have hbel1 := HB.out
        have hr1 := hkr; have hn1 := hkn; have HB1 := Lib.hid hbel1
        clear hnil hA
        have b0 := cells_of hr1 0
        have q0 := free_of hr1 0
        have b1 := cells_of hr1 1
        have q1 := free_of hr1 1
        have n0 := cells_of hn1 0
        have n1 := cells_of hn1 1
        have HX := Lib.hid (two_set hr1 (.int .i64 0) (.slice none 0 0))
        have HBX := Lib.hid (two_below (A := w.heap.size) HB1.out (Nat.le_refl _) (.int .i64 0) (.slice none 0 0))
        clear hr1 hn1 hbel1
        go_wp2
        exact bodyPost_ret (take_mark_ret rfl rfl HX.out rfl) rfl ⟨HBX.out, .inr ⟨HGOOD.out, rfl⟩⟩

def TakeRelplace (w : World) (n : Nat) (ok : Nat → Bool) (rows : Nat → List Nat) (S : Nat → World → Prop) (x i : Value) (W : World) : Prop :=
  ∃ (k : Nat), k ≤ n ∧ i = .int .i64 k ∧ Bytes w x (rows k) ∧ Below w.heap.size w W ∧ S k W ∧ (∀ j, j < k → ok j = true) ∧ w.heap.size + 1 ≤ W.heap.size ∧ True
set_option maxRecDepth 100000 in
theorem take_place (v : Value) (l : List Nat) (mf : FuncId) (q good : Bool) (fs : List FuncId) (ok : Nat → Bool) (rows : Nat → List Nat) (S : Nat → World → Prop) (Out : Int →  World → Prop) (rb : Nat) (w : World) (hv : Bytes w v l) (h4 : fs.length ≤ 4) (hr0 : rows 0 = l)
    (hS0 : ∀ W, Below w.heap.size w W → W.heap[w.heap.size]? = some (.cells #[.int .i64 0] 66 (0, 0)) → S 0 W)
    (hP : ∀ (i : Nat) f, fs[i]? = some f → TakePart w w.heap.size f (ok i) (rows i) (rows (i + 1)) (S i) (S (i + 1)))
    (hEnd : ∀ W, S fs.length W → (∀ j, j < fs.length → ok j = true) → ∃ x0,  W.heap[w.heap.size]? = some (.cells #[.int .i64 x0] 66 (0, 0)) ∧ (rows fs.length = [] → MayPart mf (.int .i64 x0) q) ∧ Out x0 W)
    (hOut : ∀ (x0 : Int) W W', Out x0 W →  Only w.heap.size W W' → Out x0 W')
    (hg1 : ∀ j, j < fs.length → ok j = false → good = false) (hg2 : rows fs.length ≠ [] → good = false) (hg3 : (∀ j, j < fs.length → ok j = true) → rows fs.length = [] → good = q)
    (hent : ∀ args w, (callFunc mf args).run Try.prog w = .ok (.enter mf args) w)
    (hrow : ∀ (i : Nat) f, fs[i]? = some f → w.cell? ⟨rb, i, none⟩ = some (.func (.func f) #[] #[])) (hrb : rb < w.heap.size) :
    Calls Try.prog 37 #[v, .func (.func mf) #[] #[], .slice (some ⟨rb, 0, none⟩) fs.length fs.length] w fun z w' => Below w.heap.size w w' ∧ ((good = true ∧ ∃ x0,  z = .returned (.tuple #[.int .i64 x0, .int .i64 0]) ∧ Out x0 w') ∨ (good = false ∧ z = .returned (.tuple #[.int .i64 0, .int .i64 2]))) := by
  obtain ⟨p, cap, rfl, _⟩ := hv.any
  obtain ⟨W0, hW0⟩ : ∃ W, W = w.alloc (.cells #[.int .i64 0] 66) := ⟨_, rfl⟩
  have hb0 : Below w.heap.size w W0 := by rw [hW0]; exact (Below.refl _ _).alloc (Nat.le_refl _) _
  have hz0 : W0.heap.size = w.heap.size + 1 := by rw [hW0]; simp
  have ha0 : W0.heap[w.heap.size]? = some (.cells #[.int .i64 0] 66 (0, 0)) := by rw [hW0]; exact heap_alloc_new w _
  have h0 : TakeRelplace w fs.length ok rows S (.slice p l.length cap) (.int .i64 (0 : Nat)) W0 := ⟨0, by omega, rfl, by rw [hr0]; exact hv, hb0, hS0 W0 hb0 ha0, fun j hj => by omega, by omega, trivial⟩
  have H0 := Lib.hid h0; have HW0 := Lib.hid hW0; have HP := Lib.hid hP; have HEND := Lib.hid hEnd; have HOUT := Lib.hid hOut; have HG1 := Lib.hid hg1; have HG2 := Lib.hid hg2; have HG3 := Lib.hid hg3; have HROW := Lib.hid hrow; have HENT := Lib.hid hent
  obtain ⟨N, hN⟩ : ∃ N, N = fs.length := ⟨_, rfl⟩
  rw [← hN]
  have hN4 : (N : Int) ≤ 4 := by omega
  have HN := Lib.hid hN
  clear hv hr0 hS0 hP hEnd hOut hg1 hg2 hg3 hent hrow h0 hW0 hb0 hz0 ha0 h4 hN 
  go_enter Try.func37, Try.ntmps37
  go_wp2
  rw [← HW0.out]
  go_loopw [0, 16] (fun x i W => TakeRelplace w N ok rows S x i W) (fun _ i _ => 6 - (intOf i).toNat)
  case atStart => rw [HN.out]; exact H0.out
  case round =>
    clear H0 HW0
    obtain ⟨k, hk, rfl, hby, hbel, hst, hoks, hsz, hkk⟩ := hrel
    obtain ⟨p, cap, rfl, _⟩ := hby.any
    by_cases hlt : k < N
    · have hkf : k < fs.length := by rw [← HN.out]; exact hlt
      obtain ⟨f, hf⟩ : ∃ f, fs[k]? = some f := ⟨_, List.getElem?_eq_getElem hkf⟩
      have hpart := HP.out k f hf
      have hent := hpart.enter
      have hcell := (hbel.cell (p := ⟨rb, k, none⟩) hrb).trans (HROW.out k f hf)
      have HBY := Lib.hid hby; have HB := Lib.hid hbel; have HST := Lib.hid hst; have HOKS := Lib.hid hoks; have HPART := Lib.hid hpart; have HK := Lib.hid hlt; have HSZ := Lib.hid hsz
      clear hby hbel hst hoks hpart hkf hf hk hsz hkk
      go_wp2_with fail
      refine (HPART.out.takes _ wr HBY.out HB.out HST.out).mono ?_
      rintro e w1 ⟨v1, rfl, honly, hnext⟩
      generalize hok : ok k = o at *
      have hbel1 : Below w.heap.size w w1 := Below.only HB.out (by omega) (by have := HSZ.out; omega) honly
      have hsz1 : w.heap.size + 1 ≤ w1.heap.size := Nat.le_trans HSZ.out honly.size
      cases o with
      | false =>
        have HGOOD : Hid (good = false) := HG1.out k (by rw [← HN.out]; exact HK.out) hok
        have HB1 := Lib.hid hbel1
        clear honly hnext hbel1 hsz1 hok
        clear HBY
        go_wp2
        go_ret2
        exact ⟨HB1.out, .inr ⟨HGOOD.out, rfl⟩⟩
      | true =>
        obtain ⟨hby1, hst1⟩ := hnext rfl
        have hrel2 : TakeRelplace w N ok rows S v1 (.int .i64 (k + 1 : Nat)) w1 := ⟨k + 1, HK.out, rfl, hby1, hbel1, hst1, fun j hj => by
          by_cases h : j < k
          · exact HOKS.out j h
          · obtain rfl : j = k := by omega
            exact hok, hsz1, trivial⟩
        have HR := Lib.hid hrel2
        clear hby1 hst1 honly hnext hbel1 hsz1 hok hrel2 
        go_wp2
        go_roundw
        case rel => exact HR.out
        case measure => simp [intOf]; omega
    · obtain rfl : k = N := by omega
      have hend := HEND.out wr (by rw [← HN.out]; exact hst) (fun j hj => hoks j (by rw [HN.out]; exact hj))
      obtain ⟨x0, hA, hmay, hout⟩ := hend
      have HB := Lib.hid hbel; have HO := Lib.hid hout; have HSZ := Lib.hid hsz
      have HOKS : Hid (∀ j, j < fs.length → ok j = true) := fun j hj => hoks j (by rw [HN.out]; exact hj)
      have HMAY : Hid (rows k = [] → MayPart mf (.int .i64 x0) q) := by rw [HN.out]; exact hmay
      have HNE : Hid (rows k ≠ [] → good = false) := by rw [HN.out]; exact HG2.out
      have HEQ : Hid (rows k = [] → good = q) := by rw [HN.out]; exact HG3.out HOKS.out
      clear hmay hout hbel hst hoks hsz
      by_cases hnil : rows k = []
      · have hm := HMAY.out hnil
        have hsay := Lib.hid (hm.says wr)
        have hent := hm.enter
        have HGQ : Hid (good = q) := HEQ.out hnil
        have hl0 : (rows k).length = 0 := by rw [hnil]; rfl
        have HA := Lib.hid hA
        have c0 := cells_of HA.out 0
        rw [hl0]
        clear hm hnil hl0 hA hby
        go_wp2_with fail
        refine hsay.out.mono ?_
        rintro e w1 ⟨rfl, hb1⟩
        have hbel1 : Below w.heap.size w w1 := HB.out.trans (hb1.mono (by have := HSZ.out; omega))
        cases q with
        | false =>
          have HB1 := Lib.hid hbel1
          have HGOOD : Hid (good = false) := HGQ.out
          clear hbel1 hb1
          clear HMAY
          go_wp2
          go_ret2
          exact ⟨HB1.out, .inr ⟨HGOOD.out, rfl⟩⟩
        | true =>
          have hA1 : w1.heap[w.heap.size]? = some (.cells #[.int .i64 x0] 66 (0, 0)) := (hb1.block w.heap.size (by have := HSZ.out; omega)).trans HA.out
          have HGOOD : Hid (good = true) := HGQ.out
          have HB1 := Lib.hid hbel1
          have c1 := cells_of hA1 0
          have HOX := Lib.hid (HOUT.out x0 _ _ HO.out (Only.of_below hb1))
          clear hA1 hb1 hbel1
          go_wp2
          go_ret2
          exact ⟨HB1.out, .inl ⟨HGOOD.out, x0, rfl, HOX.out⟩⟩
      · have hl0 : 0 < (rows k).length := List.length_pos_iff.2 hnil
        have HGOOD : Hid (good = false) := HNE.out hnil
        have hl1 : ¬ (((rows k).length : Int) ≤ 0) := by omega
        have hbel1 := HB.out
        have HB1 := Lib.hid hbel1
        clear hnil hA
        clear hbel1
        go_wp2
        go_ret2
        exact ⟨HB1.out, .inr ⟨HGOOD.out, rfl⟩⟩
end Go.Proofs.Ytoegkdfeonkgkaa

