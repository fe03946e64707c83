/- Heads in a program: what is put. -/
import Derived.Test.YtoegkdfeonkgkaaHeB
namespace Go.Proofs.Ytoegkdfeonkgkaa
open Go Go.RowKit Go.By

/-- A part's method lays so many bytes. -/
structure PutPart (w0 : World) (f : FuncId) (X : Value) (m : List Nat) : Prop where
  enter : ∀ args w, (callFunc f args).run Try.prog w = .ok (.enter f args) w
  lays : ∀ (v : Value) (l : List Nat) (base : Nat) (w : World), w.ownsRow base 5 1 v l.length (cellsOf l) → l.length ≤ 1000 → w0.heap.size ≤ base → base ≤ w.heap.size → Below w0.heap.size w0 w →
    Calls Try.prog f #[X, v] w (Rows w base (l ++ m))
/-- It may be, or it may not. -/
structure MayPart (f : FuncId) (X : Value) (q : Bool) : Prop where
  enter : ∀ args w, (callFunc f args).run Try.prog w = .ok (.enter f args) w
  says : ∀ w, Calls Try.prog f #[X] w fun e w' => e = .returned (.bool q) ∧ Below w.heap.size w w'

/-- A block that holds these cells. -/
def BoxAt (w : World) (g : Nat) (cs : Array Value) (t : TypeId) : Prop := w.heap[g]? = some (.cells cs t (0, 0))
def PutRel (w0 : World) (d : Nat) (B : World → Prop) (ms : List (List Nat)) (x i : Value) (w : World) : Prop :=
  ∃ (k : Nat) (l : List Nat), k ≤ ms.length ∧ i = .int .i64 k ∧ l.length ≤ 100 * k ∧ l = (ms.take k).flatten ∧ w.ownsRow (w0.heap.size + d) 5 1 x l.length (cellsOf l) ∧ Below w0.heap.size w0 w ∧ B w

set_option maxRecDepth 100000 in
theorem put_head (x0 x1 x2 : Value) (mf : FuncId) (q : Bool) (fs : List FuncId) (ms : List (List Nat)) (rb : Nat) (w : World) (hm : MayPart mf (.agg #[x0, x1, x2]) q) (hlen : fs.length = ms.length) (h4 : ms.length ≤ 4) (hms : q = true → ∀ (i : Nat) m, ms[i]? = some m → m.length ≤ 100)
    (hP : q = true → ∀ (i : Nat) f m, fs[i]? = some f → ms[i]? = some m → PutPart w f (.agg #[x0, x1, x2]) m) (hrow : ∀ (i : Nat) f, fs[i]? = some f → w.cell? ⟨rb, i, none⟩ = some (.func (.func f) #[] #[])) (hrb : rb < w.heap.size) :
    Calls Try.prog 40 #[.agg #[x0, x1, x2], .func (.func mf) #[] #[], .slice (some ⟨rb, 0, none⟩) fs.length fs.length] w (Rows w w.heap.size (if q = true then ms.flatten else [])) := by
  have hent := hm.enter
  have hsay := Lib.hid (hm.says (w.alloc (.cells #[x0, x1, x2] 45)))
  have HP := Lib.hid hP; have HMS := Lib.hid hms; have HROW := Lib.hid hrow; have HLEN := Lib.hid hlen
  obtain ⟨N, hN⟩ : ∃ N, N = fs.length := ⟨_, rfl⟩
  rw [← hN]
  have hN4 : (N : Int) ≤ 4 := by omega
  have HN := Lib.hid hN
  have HB0 : Hid (Below w.heap.size w (w.alloc (.cells #[x0, x1, x2] 45))) := ((Below.refl _ _).alloc (Nat.le_refl _) _)
  obtain ⟨M, hM⟩ : ∃ M, M = if q = true then ms.flatten else [] := ⟨_, rfl⟩
  rw [← hM]
  have HM := Lib.hid hM
  clear hP hms hrow hlen h4 hN hm hM
  go_enter Try.func40, Try.ntmps40
  go_wp2_with fail
  refine hsay.out.mono ?_
  rintro e w1 ⟨rfl, hb1⟩
  cases q with
  | false =>
    have HB1 := Lib.hid (HB0.out.trans (hb1.mono (by simp)))
    clear hsay hb1
    go_wp2
    go_ret
    exact ⟨_, rfl, by rw [HM.out]; exact World.ownsRow_nil _ _ _ _, HB1.out⟩
  | true =>
    have h0 : PutRel w 1 (fun W => BoxAt W w.heap.size #[x0, x1, x2] 45) ms (.slice none 0 0) (.int .i64 (0 : Nat)) w1 := ⟨0, [], by omega, rfl, by simp, by simp, World.ownsRow_nil _ _ _ _, HB0.out.trans (hb1.mono (by simp)), ((hb1.block w.heap.size (by simp)).trans (heap_alloc_new w _))⟩
    have H0 := Lib.hid h0
    clear hsay hb1 h0 hent
    go_wp2
    go_loopw [7, 16] (fun x i wr => PutRel w 1 (fun W => BoxAt W w.heap.size #[x0, x1, x2] 45) ms x i wr) (fun _ i _ => 6 - (intOf i).toNat)
    case atStart => exact H0.out
    case round =>
      clear H0
      obtain ⟨k, l, hk, rfl, hl, hout, hown, hbel, hbox⟩ := hrel
      have hsz := hbel.size
      obtain ⟨p, cap, rfl⟩ := shape_of hown
      by_cases hlt : k < N
      · have hkf : k < fs.length := by rw [← HN.out]; exact hlt
        have hkm : k < ms.length := by rw [← HLEN.out]; exact hkf
        obtain ⟨f, hf⟩ : ∃ f, fs[k]? = some f := ⟨_, List.getElem?_eq_getElem hkf⟩
        obtain ⟨m, hm⟩ : ∃ m, ms[k]? = some m := ⟨_, List.getElem?_eq_getElem hkm⟩
        have hpart := HP.out trivial k f m hf hm
        have hent := hpart.enter
        have hcell := (hbel.cell (p := ⟨rb, k, none⟩) hrb).trans (HROW.out k f hf)
        have hc0 : wr.cell? ⟨w.heap.size, 0, none⟩ = some x0 := cells_of hbox 0
        have hc1 : wr.cell? ⟨w.heap.size, 1, none⟩ = some x1 := cells_of hbox 1
        have hc2 : wr.cell? ⟨w.heap.size, 2, none⟩ = some x2 := cells_of hbox 2
        have htk : Hid ((ms.take (k + 1)).flatten = l ++ m) := by
          unfold Hid
          rw [List.take_succ_eq_append_getElem hkm, List.flatten_append, hout]
          rw [List.getElem?_eq_getElem hkm] at hm
          rw [Option.some.inj hm]
          simp
        have hm100 := HMS.out trivial k m hm
        have hsl : (l.length : Int) ≤ 100 * k := by omega
        have HO := Lib.hid hown; have HB := Lib.hid hbel; have HX := Lib.hid hbox
        have HPART := Lib.hid hpart; have HM1 := Lib.hid hm100
        have HKM := Lib.hid hkm
        clear hown hbel hbox hout hf hm hpart hkf hkm hm100
        go_wp2_with fail
        have hbs : w.heap.size + 1 ≤ wr.heap.size := by have := (Array.getElem?_eq_some_iff.1 HX.out).1; omega
        refine (HPART.out.lays _ l (w.heap.size + 1) wr HO.out (by omega) (by omega) hbs HB.out).mono ?_
        rintro e w2 ⟨v2, rfl, ho2, hb2⟩
        have hm101 := HM1.out
        have hrel2 : PutRel w 1 (fun W => BoxAt W w.heap.size #[x0, x1, x2] 45) ms v2 (.int .i64 (k + 1 : Nat)) w2 :=
          ⟨k + 1, l ++ m, HKM.out, rfl, by rw [List.length_append]; omega, htk.out.symm, ho2, HB.out.trans (hb2.mono (by omega)), ((hb2.block w.heap.size (by omega)).trans HX.out)⟩
        have HR := Lib.hid hrel2
        clear ho2 hb2 hm101 hrel2
        go_wp2
        go_roundw
        case rel => exact HR.out
        case measure => simp [intOf]; omega
      · obtain rfl : k = N := by have := HLEN.out; have := HN.out; omega
        have E : Hid (M = l) := by
          unfold Hid
          rw [HM.out, if_pos trivial, hout, List.take_of_length_le (by have := HLEN.out; have := HN.out; omega)]
        have HO := Lib.hid hown; have HB := Lib.hid hbel
        clear hown hbel hbox hout
        go_wp2
        go_ret
        exact ⟨_, rfl, by rw [E.out]; exact owns_base HO.out (by omega), HB.out⟩

set_option maxRecDepth 100000 in
theorem put_done (x0 x1 x2 : Value) (mf : FuncId) (q : Bool) (fs : List FuncId) (ms : List (List Nat)) (rb : Nat) (w : World) (hm : MayPart mf (.agg #[x0, x1, x2]) q) (hlen : fs.length = ms.length) (h4 : ms.length ≤ 4) (hms : q = true → ∀ (i : Nat) m, ms[i]? = some m → m.length ≤ 100)
    (hP : q = true → ∀ (i : Nat) f m, fs[i]? = some f → ms[i]? = some m → PutPart w f (.agg #[x0, x1, x2]) m) (hrow : ∀ (i : Nat) f, fs[i]? = some f → w.cell? ⟨rb, i, none⟩ = some (.func (.func f) #[] #[])) (hrb : rb < w.heap.size) :
    Calls Try.prog 45 #[.agg #[x0, x1, x2], .func (.func mf) #[] #[], .slice (some ⟨rb, 0, none⟩) fs.length fs.length] w (Rows w w.heap.size (if q = true then ms.flatten else [])) := by
  have hent := hm.enter
  have hsay := Lib.hid (hm.says (w.alloc (.cells #[x0, x1, x2] 54)))
  have HP := Lib.hid hP; have HMS := Lib.hid hms; have HROW := Lib.hid hrow; have HLEN := Lib.hid hlen
  obtain ⟨N, hN⟩ : ∃ N, N = fs.length := ⟨_, rfl⟩
  rw [← hN]
  have hN4 : (N : Int) ≤ 4 := by omega
  have HN := Lib.hid hN
  have HB0 : Hid (Below w.heap.size w (w.alloc (.cells #[x0, x1, x2] 54))) := ((Below.refl _ _).alloc (Nat.le_refl _) _)
  obtain ⟨M, hM⟩ : ∃ M, M = if q = true then ms.flatten else [] := ⟨_, rfl⟩
  rw [← hM]
  have HM := Lib.hid hM
  clear hP hms hrow hlen h4 hN hm hM
  go_enter Try.func45, Try.ntmps45
  go_wp2_with fail
  refine hsay.out.mono ?_
  rintro e w1 ⟨rfl, hb1⟩
  cases q with
  | false =>
    have HB1 := Lib.hid (HB0.out.trans (hb1.mono (by simp)))
    clear hsay hb1
    go_wp2
    go_ret
    exact ⟨_, rfl, by rw [HM.out]; exact World.ownsRow_nil _ _ _ _, HB1.out⟩
  | true =>
    have h0 : PutRel w 1 (fun W => BoxAt W w.heap.size #[x0, x1, x2] 54) ms (.slice none 0 0) (.int .i64 (0 : Nat)) w1 := ⟨0, [], by omega, rfl, by simp, by simp, World.ownsRow_nil _ _ _ _, HB0.out.trans (hb1.mono (by simp)), ((hb1.block w.heap.size (by simp)).trans (heap_alloc_new w _))⟩
    have H0 := Lib.hid h0
    clear hsay hb1 h0 hent
    go_wp2
    go_loopw [7, 16] (fun x i wr => PutRel w 1 (fun W => BoxAt W w.heap.size #[x0, x1, x2] 54) ms x i wr) (fun _ i _ => 6 - (intOf i).toNat)
    case atStart => exact H0.out
    case round =>
      clear H0
      obtain ⟨k, l, hk, rfl, hl, hout, hown, hbel, hbox⟩ := hrel
      have hsz := hbel.size
      obtain ⟨p, cap, rfl⟩ := shape_of hown
      by_cases hlt : k < N
      · have hkf : k < fs.length := by rw [← HN.out]; exact hlt
        have hkm : k < ms.length := by rw [← HLEN.out]; exact hkf
        obtain ⟨f, hf⟩ : ∃ f, fs[k]? = some f := ⟨_, List.getElem?_eq_getElem hkf⟩
        obtain ⟨m, hm⟩ : ∃ m, ms[k]? = some m := ⟨_, List.getElem?_eq_getElem hkm⟩
        have hpart := HP.out trivial k f m hf hm
        have hent := hpart.enter
        have hcell := (hbel.cell (p := ⟨rb, k, none⟩) hrb).trans (HROW.out k f hf)
        have hc0 : wr.cell? ⟨w.heap.size, 0, none⟩ = some x0 := cells_of hbox 0
        have hc1 : wr.cell? ⟨w.heap.size, 1, none⟩ = some x1 := cells_of hbox 1
        have hc2 : wr.cell? ⟨w.heap.size, 2, none⟩ = some x2 := cells_of hbox 2
        have htk : Hid ((ms.take (k + 1)).flatten = l ++ m) := by
          unfold Hid
          rw [List.take_succ_eq_append_getElem hkm, List.flatten_append, hout]
          rw [List.getElem?_eq_getElem hkm] at hm
          rw [Option.some.inj hm]
          simp
        have hm100 := HMS.out trivial k m hm
        have hsl : (l.length : Int) ≤ 100 * k := by omega
        have HO := Lib.hid hown; have HB := Lib.hid hbel; have HX := Lib.hid hbox
        have HPART := Lib.hid hpart; have HM1 := Lib.hid hm100
        have HKM := Lib.hid hkm
        clear hown hbel hbox hout hf hm hpart hkf hkm hm100
        go_wp2_with fail
        have hbs : w.heap.size + 1 ≤ wr.heap.size := by have := (Array.getElem?_eq_some_iff.1 HX.out).1; omega
        refine (HPART.out.lays _ l (w.heap.size + 1) wr HO.out (by omega) (by omega) hbs HB.out).mono ?_
        rintro e w2 ⟨v2, rfl, ho2, hb2⟩
        have hm101 := HM1.out
        have hrel2 : PutRel w 1 (fun W => BoxAt W w.heap.size #[x0, x1, x2] 54) ms v2 (.int .i64 (k + 1 : Nat)) w2 :=
          ⟨k + 1, l ++ m, HKM.out, rfl, by rw [List.length_append]; omega, htk.out.symm, ho2, HB.out.trans (hb2.mono (by omega)), ((hb2.block w.heap.size (by omega)).trans HX.out)⟩
        have HR := Lib.hid hrel2
        clear ho2 hb2 hm101 hrel2
        go_wp2
        go_roundw
        case rel => exact HR.out
        case measure => simp [intOf]; omega
      · obtain rfl : k = N := by have := HLEN.out; have := HN.out; omega
        have E : Hid (M = l) := by
          unfold Hid
          rw [HM.out, if_pos trivial, hout, List.take_of_length_le (by have := HLEN.out; have := HN.out; omega)]
        have HO := Lib.hid hown; have HB := Lib.hid hbel
        clear hown hbel hbox hout
        go_wp2
        go_ret
        exact ⟨_, rfl, by rw [E.out]; exact owns_base HO.out (by omega), HB.out⟩

set_option maxRecDepth 100000 in
theorem put_mark (x0 x1 : Value) (mf : FuncId) (q : Bool) (fs : List FuncId) (ms : List (List Nat)) (rb : Nat) (w : World) (hm : MayPart mf (.agg #[x0, x1]) q) (hlen : fs.length = ms.length) (h4 : ms.length ≤ 4) (hms : q = true → ∀ (i : Nat) m, ms[i]? = some m → m.length ≤ 100)
    (hP : q = true → ∀ (i : Nat) f m, fs[i]? = some f → ms[i]? = some m → PutPart w f (.agg #[x0, x1]) m) (hrow : ∀ (i : Nat) f, fs[i]? = some f → w.cell? ⟨rb, i, none⟩ = some (.func (.func f) #[] #[])) (hrb : rb < w.heap.size) :
    Calls Try.prog 48 #[.agg #[x0, x1], .func (.func mf) #[] #[], .slice (some ⟨rb, 0, none⟩) fs.length fs.length] w (Rows w w.heap.size (if q = true then ms.flatten else [])) := by
  have hent := hm.enter
  have hsay := Lib.hid (hm.says (w.alloc (.cells #[x0, x1] 60)))
  have HP := Lib.hid hP; have HMS := Lib.hid hms; have HROW := Lib.hid hrow; have HLEN := Lib.hid hlen
  obtain ⟨N, hN⟩ : ∃ N, N = fs.length := ⟨_, rfl⟩
  rw [← hN]
  have hN4 : (N : Int) ≤ 4 := by omega
  have HN := Lib.hid hN
  have HB0 : Hid (Below w.heap.size w (w.alloc (.cells #[x0, x1] 60))) := ((Below.refl _ _).alloc (Nat.le_refl _) _)
  obtain ⟨M, hM⟩ : ∃ M, M = if q = true then ms.flatten else [] := ⟨_, rfl⟩
  rw [← hM]
  have HM := Lib.hid hM
  clear hP hms hrow hlen h4 hN hm hM
  go_enter Try.func48, Try.ntmps48
  go_wp2_with fail
  refine hsay.out.mono ?_
  rintro e w1 ⟨rfl, hb1⟩
  cases q with
  | false =>
    have HB1 := Lib.hid (HB0.out.trans (hb1.mono (by simp)))
    clear hsay hb1
    go_wp2
    go_ret
    exact ⟨_, rfl, by rw [HM.out]; exact World.ownsRow_nil _ _ _ _, HB1.out⟩
  | true =>
    have h0 : PutRel w 1 (fun W => BoxAt W w.heap.size #[x0, x1] 60) ms (.slice none 0 0) (.int .i64 (0 : Nat)) w1 := ⟨0, [], by omega, rfl, by simp, by simp, World.ownsRow_nil _ _ _ _, HB0.out.trans (hb1.mono (by simp)), ((hb1.block w.heap.size (by simp)).trans (heap_alloc_new w _))⟩
    have H0 := Lib.hid h0
    clear hsay hb1 h0 hent
    go_wp2
    go_loopw [7, 16] (fun x i wr => PutRel w 1 (fun W => BoxAt W w.heap.size #[x0, x1] 60) ms x i wr) (fun _ i _ => 6 - (intOf i).toNat)
    case atStart => exact H0.out
    case round =>
      clear H0
      obtain ⟨k, l, hk, rfl, hl, hout, hown, hbel, hbox⟩ := hrel
      have hsz := hbel.size
      obtain ⟨p, cap, rfl⟩ := shape_of hown
      by_cases hlt : k < N
      · have hkf : k < fs.length := by rw [← HN.out]; exact hlt
        have hkm : k < ms.length := by rw [← HLEN.out]; exact hkf
        obtain ⟨f, hf⟩ : ∃ f, fs[k]? = some f := ⟨_, List.getElem?_eq_getElem hkf⟩
        obtain ⟨m, hm⟩ : ∃ m, ms[k]? = some m := ⟨_, List.getElem?_eq_getElem hkm⟩
        have hpart := HP.out trivial k f m hf hm
        have hent := hpart.enter
        have hcell := (hbel.cell (p := ⟨rb, k, none⟩) hrb).trans (HROW.out k f hf)
        have hc0 : wr.cell? ⟨w.heap.size, 0, none⟩ = some x0 := cells_of hbox 0
        have hc1 : wr.cell? ⟨w.heap.size, 1, none⟩ = some x1 := cells_of hbox 1
        have htk : Hid ((ms.take (k + 1)).flatten = l ++ m) := by
          unfold Hid
          rw [List.take_succ_eq_append_getElem hkm, List.flatten_append, hout]
          rw [List.getElem?_eq_getElem hkm] at hm
          rw [Option.some.inj hm]
          simp
        have hm100 := HMS.out trivial k m hm
        have hsl : (l.length : Int) ≤ 100 * k := by omega
        have HO := Lib.hid hown; have HB := Lib.hid hbel; have HX := Lib.hid hbox
        have HPART := Lib.hid hpart; have HM1 := Lib.hid hm100
        have HKM := Lib.hid hkm
        clear hown hbel hbox hout hf hm hpart hkf hkm hm100
        go_wp2_with fail
        have hbs : w.heap.size + 1 ≤ wr.heap.size := by have := (Array.getElem?_eq_some_iff.1 HX.out).1; omega
        refine (HPART.out.lays _ l (w.heap.size + 1) wr HO.out (by omega) (by omega) hbs HB.out).mono ?_
        rintro e w2 ⟨v2, rfl, ho2, hb2⟩
        have hm101 := HM1.out
        have hrel2 : PutRel w 1 (fun W => BoxAt W w.heap.size #[x0, x1] 60) ms v2 (.int .i64 (k + 1 : Nat)) w2 :=
          ⟨k + 1, l ++ m, HKM.out, rfl, by rw [List.length_append]; omega, htk.out.symm, ho2, HB.out.trans (hb2.mono (by omega)), ((hb2.block w.heap.size (by omega)).trans HX.out)⟩
        have HR := Lib.hid hrel2
        clear ho2 hb2 hm101 hrel2
        go_wp2
        go_roundw
        case rel => exact HR.out
        case measure => simp [intOf]; omega
      · obtain rfl : k = N := by have := HLEN.out; have := HN.out; omega
        have E : Hid (M = l) := by
          unfold Hid
          rw [HM.out, if_pos trivial, hout, List.take_of_length_le (by have := HLEN.out; have := HN.out; omega)]
        have HO := Lib.hid hown; have HB := Lib.hid hbel
        clear hown hbel hbox hout
        go_wp2
        go_ret
        exact ⟨_, rfl, by rw [E.out]; exact owns_base HO.out (by omega), HB.out⟩

set_option maxRecDepth 100000 in
theorem put_place (x : Value) (mf : FuncId) (q : Bool) (fs : List FuncId) (ms : List (List Nat)) (rb : Nat) (w : World) (hm : MayPart mf (x) q) (hlen : fs.length = ms.length) (h4 : ms.length ≤ 4) (hms : q = true → ∀ (i : Nat) m, ms[i]? = some m → m.length ≤ 100)
    (hP : q = true → ∀ (i : Nat) f m, fs[i]? = some f → ms[i]? = some m → PutPart w f (x) m) (hrow : ∀ (i : Nat) f, fs[i]? = some f → w.cell? ⟨rb, i, none⟩ = some (.func (.func f) #[] #[])) (hrb : rb < w.heap.size) :
    Calls Try.prog 51 #[x, .func (.func mf) #[] #[], .slice (some ⟨rb, 0, none⟩) fs.length fs.length] w (Rows w w.heap.size (if q = true then ms.flatten else [])) := by
  have hent := hm.enter
  have hsay := Lib.hid (hm.says w)
  have HP := Lib.hid hP; have HMS := Lib.hid hms; have HROW := Lib.hid hrow; have HLEN := Lib.hid hlen
  obtain ⟨N, hN⟩ : ∃ N, N = fs.length := ⟨_, rfl⟩
  rw [← hN]
  have hN4 : (N : Int) ≤ 4 := by omega
  have HN := Lib.hid hN
  have HB0 : Hid (Below w.heap.size w w) := (Below.refl _ _)
  obtain ⟨M, hM⟩ : ∃ M, M = if q = true then ms.flatten else [] := ⟨_, rfl⟩
  rw [← hM]
  have HM := Lib.hid hM
  clear hP hms hrow hlen h4 hN hm hM
  go_enter Try.func51, Try.ntmps51
  go_wp2_with fail
  refine hsay.out.mono ?_
  rintro e w1 ⟨rfl, hb1⟩
  cases q with
  | false =>
    have HB1 := Lib.hid (HB0.out.trans hb1)
    clear hsay hb1
    go_wp2
    go_ret
    exact ⟨_, rfl, by rw [HM.out]; exact World.ownsRow_nil _ _ _ _, HB1.out⟩
  | true =>
    have h0 : PutRel w 0 (fun _ => True) ms (.slice none 0 0) (.int .i64 (0 : Nat)) w1 := ⟨0, [], by omega, rfl, by simp, by simp, World.ownsRow_nil _ _ _ _, HB0.out.trans hb1, trivial⟩
    have H0 := Lib.hid h0
    clear hsay hb1 h0 hent
    go_wp2
    go_loopw [7, 16] (fun x i wr => PutRel w 0 (fun _ => True) ms x i wr) (fun _ i _ => 6 - (intOf i).toNat)
    case atStart => exact H0.out
    case round =>
      clear H0
      obtain ⟨k, l, hk, rfl, hl, hout, hown, hbel, hbox⟩ := hrel
      have hsz := hbel.size
      obtain ⟨p, cap, rfl⟩ := shape_of hown
      by_cases hlt : k < N
      · have hkf : k < fs.length := by rw [← HN.out]; exact hlt
        have hkm : k < ms.length := by rw [← HLEN.out]; exact hkf
        obtain ⟨f, hf⟩ : ∃ f, fs[k]? = some f := ⟨_, List.getElem?_eq_getElem hkf⟩
        obtain ⟨m, hm⟩ : ∃ m, ms[k]? = some m := ⟨_, List.getElem?_eq_getElem hkm⟩
        have hpart := HP.out trivial k f m hf hm
        have hent := hpart.enter
        have hcell := (hbel.cell (p := ⟨rb, k, none⟩) hrb).trans (HROW.out k f hf)
        have htk : Hid ((ms.take (k + 1)).flatten = l ++ m) := by
          unfold Hid
          rw [List.take_succ_eq_append_getElem hkm, List.flatten_append, hout]
          rw [List.getElem?_eq_getElem hkm] at hm
          rw [Option.some.inj hm]
          simp
        have hm100 := HMS.out trivial k m hm
        have hsl : (l.length : Int) ≤ 100 * k := by omega
        have HO := Lib.hid hown; have HB := Lib.hid hbel; have HX := Lib.hid hbox
        have HPART := Lib.hid hpart; have HM1 := Lib.hid hm100
        have HKM := Lib.hid hkm
        clear hown hbel hbox hout hf hm hpart hkf hkm hm100
        go_wp2_with fail
        have hbs : w.heap.size + 0 ≤ wr.heap.size := by omega
        refine (HPART.out.lays _ l (w.heap.size + 0) wr HO.out (by omega) (by omega) hbs HB.out).mono ?_
        rintro e w2 ⟨v2, rfl, ho2, hb2⟩
        have hm101 := HM1.out
        have hrel2 : PutRel w 0 (fun _ => True) ms v2 (.int .i64 (k + 1 : Nat)) w2 :=
          ⟨k + 1, l ++ m, HKM.out, rfl, by rw [List.length_append]; omega, htk.out.symm, ho2, HB.out.trans (hb2.mono (by omega)), trivial⟩
        have HR := Lib.hid hrel2
        clear ho2 hb2 hm101 hrel2
        go_wp2
        go_roundw
        case rel => exact HR.out
        case measure => simp [intOf]; omega
      · obtain rfl : k = N := by have := HLEN.out; have := HN.out; omega
        have E : Hid (M = l) := by
          unfold Hid
          rw [HM.out, if_pos trivial, hout, List.take_of_length_le (by have := HLEN.out; have := HN.out; omega)]
        have HO := Lib.hid hown; have HB := Lib.hid hbel
        clear hown hbel hbox hout
        go_wp2
        go_ret
        exact ⟨_, rfl, by rw [E.out]; exact owns_base HO.out (by omega), HB.out⟩
end Go.Proofs.Ytoegkdfeonkgkaa

