/- rec: a record is taken. -/
import Derived.Test.YtlagllhhahomlaaGreatMClone
import Derived.Deep.RegionWith
namespace Go.Proofs.YtlagllhhahomlaaGreat.Rc
open Go Go.RowKit Go.By
inductive TakeRel (w0 : World) (sv : Value) (l : List Nat) : Value → World → Prop where
  | r0 {w : World} : Rd w0.heap.size w0.heap.size w0 w sv 0 0 0 (.slice none 0 0) → TakeRel w0 sv l (.int .i64 0) w
  | r1 {w : World} : partOk l 0 = true → Rd w0.heap.size w0.heap.size w0 w sv 4 (bodyLen l) 0 (.slice none 0 0) → TakeRel w0 sv l (.int .i64 1) w
  | r2 {w : World} : partOk l 0 = true → partOk l 1 = true → Rd w0.heap.size w0.heap.size w0 w sv 5 (bodyLen l) (atB l 4) (.slice none 0 0) → TakeRel w0 sv l (.int .i64 2) w
  | r3 {w : World} (v : Value) : partOk l 0 = true → partOk l 1 = true → partOk l 2 = true → Bytes w0 v (pc l 5 (bodyLen l)) → Rd w0.heap.size w0.heap.size w0 w sv (5 + bodyLen l) (bodyLen l) (atB l 4) v → TakeRel w0 sv l (.int .i64 3) w
  | r4 {w : World} (v : Value) : isRec l = true → Bytes w0 v (pc l 5 (bodyLen l)) → Rd w0.heap.size w0.heap.size w0 w sv (9 + bodyLen l) (bodyLen l) (atB l 4) v → TakeRel w0 sv l (.int .i64 4) w
def Took (B : Nat) (w0 : World) (l : List Nat) (e : Ending) (w' : World) : Prop :=
  ∃ v, Below B w0 w' ∧ (if isRec l then e = .returned (.tuple #[.int .u8 (atB l 4 : Nat), v, .int .i64 (9 + bodyLen l : Nat), .int .i64 0]) ∧ w'.ownsRow B 5 1 v (pc l 5 (bodyLen l)).length (cellsOf (pc l 5 (bodyLen l)))
    else e = .returned (.tuple #[.int .u8 0, .slice none 0 0, .int .i64 0, .int .i64 2]))
theorem took_yes {B : Nat} {w0 w' : World} {l : List Nat} {v : Value} (h : isRec l = true) (hb : Below B w0 w') (ho : w'.ownsRow B 5 1 v (pc l 5 (bodyLen l)).length (cellsOf (pc l 5 (bodyLen l)))) : Took B w0 l (.returned (.tuple #[.int .u8 (atB l 4 : Nat), v, .int .i64 (9 + bodyLen l : Nat), .int .i64 0])) w' := ⟨v, hb, by rw [if_pos h]; exact ⟨rfl, ho⟩⟩
theorem index0 (f1 f2 f3 f4 : FuncId) (a : Value) (w : World) : (Instr.index 227 (.agg #[.func (.func f1) #[a] #[], .func (.func f2) #[a] #[], .func (.func f3) #[a] #[], .func (.func f4) #[a] #[]]) (.int .i64 0)).run Tryz.prog w = .ok (.func (.func f1) #[a] #[]) w := by kernel_rfl
theorem index1 (f1 f2 f3 f4 : FuncId) (a : Value) (w : World) : (Instr.index 227 (.agg #[.func (.func f1) #[a] #[], .func (.func f2) #[a] #[], .func (.func f3) #[a] #[], .func (.func f4) #[a] #[]]) (.int .i64 1)).run Tryz.prog w = .ok (.func (.func f2) #[a] #[]) w := by kernel_rfl
theorem index2 (f1 f2 f3 f4 : FuncId) (a : Value) (w : World) : (Instr.index 227 (.agg #[.func (.func f1) #[a] #[], .func (.func f2) #[a] #[], .func (.func f3) #[a] #[], .func (.func f4) #[a] #[]]) (.int .i64 2)).run Tryz.prog w = .ok (.func (.func f3) #[a] #[]) w := by kernel_rfl
theorem index3 (f1 f2 f3 f4 : FuncId) (a : Value) (w : World) : (Instr.index 227 (.agg #[.func (.func f1) #[a] #[], .func (.func f2) #[a] #[], .func (.func f3) #[a] #[], .func (.func f4) #[a] #[]]) (.int .i64 3)).run Tryz.prog w = .ok (.func (.func f4) #[a] #[]) w := by kernel_rfl
theorem clone_body {sv v : Value} {b : List Nat} {i size kind : Nat} {w wr : World} (hv : Bytes w v b) (hb : b.length ≤ 17592186044416) (hr : Rd w.heap.size w.heap.size w wr sv i size kind v)
    (w1 : World) (e1 : w1.heap = wr.heap) (e2 : w1.os = wr.os) (e3 : w1.tape = wr.tape) (e4 : w1.output = wr.output) :
    Calls Tryz.prog 71 #[v] w1 fun e w' => ∃ v', e = .returned v' ∧ w'.cell? ⟨w.heap.size, 1, none⟩ = some (.int .i64 i) ∧ w'.cell? ⟨w.heap.size, 3, none⟩ = some (.int .u8 kind) ∧ w'.ownsRow w.heap.size 5 1 v' b.length (cellsOf b) ∧ Below w.heap.size w w' := by
  have hb1 : Below wr.heap.size wr w1 := ⟨e2, e3, e4, by rw [e1]; exact Nat.le_refl _, fun k _ => by rw [e1]⟩
  have hr1 : Rd w.heap.size w.heap.size w w1 sv i size kind v := hr.below hb1 (Nat.le_refl _)
  refine (clone_any v b w1 (hv.below hr1.2) hb).mono ?_
  rintro e w2 ⟨v', rfl, ho, hb2⟩
  have hr2 := hr1.below hb2 (Nat.le_refl _)
  refine ⟨v', rfl, cells_of hr2.1 1, cells_of hr2.1 3, ⟨ho.1, ?_⟩, hr2.2⟩
  rcases ho.2 with h | ⟨g, c, cur, h1, h2, h3⟩
  · exact .inl h
  · exact .inr ⟨g, c, cur, h1, by have := hr1.2.size; omega, h3⟩
theorem took_no {B : Nat} {w0 w' : World} {l : List Nat} (h : isRec l = false) (hb : Below B w0 w') : Took B w0 l (.returned (.tuple #[.int .u8 0, .slice none 0 0, .int .i64 0, .int .i64 2])) w' := ⟨.slice none 0 0, hb, by rw [h]; rfl⟩
set_option maxRecDepth 100000 in
set_option maxHeartbeats 2000000 in
theorem take_any (sv : Value) (l : List Nat) (w : World) (hsv : Bytes w sv l) (hl : l.length ≤ 17592186044416) :
    Calls Tryz.prog 138 #[sv] w fun e w' => Took w.heap.size w l e w' := by
  obtain ⟨p, cap, rfl, _⟩ := hsv.any
  have HSV := Lib.hid hsv; clear hsv
  go_enter Tryz.func138, Tryz.ntmps138
  go_wp2
  have h0 : Rd w.heap.size w.heap.size w (w.alloc (.cells #[.slice p l.length cap, .int .i64 0, .int .i64 0, .int .u8 0, .slice none 0 0] 248)) (.slice p l.length cap) 0 0 0 (.slice none 0 0) := ⟨heap_alloc_new w _, (Below.refl _ _).alloc (Nat.le_refl _) _⟩
  have H0 := Lib.hid h0; clear h0
  go_loopw [16] (fun i wr => TakeRel w (.slice p l.length cap) l i wr) (fun i _ => 4 - (intOf i).toNat)
  case atStart => exact .r0 H0.out
  case round =>
    clear H0
    have hi0 := index0 165 166 167 168 (.pointer (some ⟨w.heap.size, 0, none⟩))
    have hi1 := index1 165 166 167 168 (.pointer (some ⟨w.heap.size, 0, none⟩))
    have hi2 := index2 165 166 167 168 (.pointer (some ⟨w.heap.size, 0, none⟩))
    have hi3 := index3 165 166 167 168 (.pointer (some ⟨w.heap.size, 0, none⟩))
    cases hrel with
    | r0 hr =>
      cases hp : partOk l 0
      · have HC := Lib.hid (size_no _ _ _ _ _ l _ hr HSV.out (Nat.le_refl _) (Nat.le_refl _) hp)
        have HN : Hid (isRec l = false) := by unfold Hid isRec; rw [hp]; rfl
        clear hr hp
        go_wp2_with fail
        refine HC.out.mono ?_
        rintro e w1 ⟨rfl, hb⟩
        have HB := Lib.hid hb; clear hb
        go_wp2
        exact bodyPost_ret (v := .tuple #[.int .u8 0, .slice none 0 0, .int .i64 0, .int .i64 2]) (by simp [results, go_sem]) rfl (took_no HN.out HB.out)
      · have HC := Lib.hid (size_yes _ _ _ _ _ l _ hr HSV.out (Nat.le_refl _) (Nat.le_refl _) hp)
        have HP0 := Lib.hid hp
        clear hr hp
        go_wp2_with fail
        refine HC.out.mono ?_
        rintro e w1 ⟨rfl, hr⟩
        have HR := Lib.hid hr; clear hr
        go_wp2
        go_roundw
        case rel => exact .r1 HP0.out HR.out
        case measure => decide
    | r1 hp0 hr =>
      have h4 : 4 ≤ l.length := by simp only [partOk, Bool.and_eq_true, decide_eq_true_eq] at hp0; exact hp0.1
      have HP0 := Lib.hid hp0
      cases hp : partOk l 1
      · have HC := Lib.hid (kind_no _ _ _ _ _ l _ _ hr HSV.out h4 hp)
        have HN : Hid (isRec l = false) := by unfold Hid isRec; rw [hp]; simp
        clear hr hp hp0 h4
        go_wp2_with fail
        refine HC.out.mono ?_
        rintro e w1 ⟨rfl, hb⟩
        have HB := Lib.hid hb; clear hb
        go_wp2
        exact bodyPost_ret (v := .tuple #[.int .u8 0, .slice none 0 0, .int .i64 0, .int .i64 2]) (by simp [results, go_sem]) rfl (took_no HN.out HB.out)
      · have HC := Lib.hid (kind_yes _ _ _ _ _ l _ _ hr HSV.out (Nat.le_refl _) (Nat.le_refl _) hp)
        have HP1 := Lib.hid hp
        clear hr hp hp0 h4
        go_wp2_with fail
        refine HC.out.mono ?_
        rintro e w1 ⟨rfl, hr⟩
        have HR := Lib.hid hr; clear hr
        go_wp2
        go_roundw
        case rel => exact .r2 HP0.out HP1.out HR.out
        case measure => decide
    | r2 hp0 hp1 hr =>
      have h5 : 5 ≤ l.length := by simp only [partOk, decide_eq_true_eq] at hp1; exact hp1
      have hn : bodyLen l ≤ 4096 := by simp only [partOk, Bool.and_eq_true, decide_eq_true_eq] at hp0; exact hp0.2
      have HP0 := Lib.hid hp0
      have HP1 := Lib.hid hp1
      cases hp : partOk l 2
      · have HC := Lib.hid (body_no _ _ _ _ _ l _ _ hr HSV.out (Nat.le_refl _) h5 hn hp)
        have HN : Hid (isRec l = false) := by unfold Hid isRec; rw [hp]; simp
        clear hr hp hp0 hp1 h5 hn
        go_wp2_with fail
        refine HC.out.mono ?_
        rintro e w1 ⟨rfl, hb⟩
        have HB := Lib.hid hb; clear hb
        go_wp2
        exact bodyPost_ret (v := .tuple #[.int .u8 0, .slice none 0 0, .int .i64 0, .int .i64 2]) (by simp [results, go_sem]) rfl (took_no HN.out HB.out)
      · have HC := Lib.hid (body_yes _ _ _ _ _ l _ _ hr HSV.out (Nat.le_refl _) hn hp)
        have HP2 := Lib.hid hp
        clear hr hp hp0 hp1 h5 hn
        go_wp2_with fail
        refine HC.out.mono ?_
        rintro e w1 ⟨rfl, v, hv, hr⟩
        have HR := Lib.hid hr; clear hr
        have HV := Lib.hid hv; clear hv
        go_wp2
        go_roundw
        case rel => exact .r3 v HP0.out HP1.out HP2.out HV.out HR.out
        case measure => decide
    | r3 v hp0 hp1 hp2 hv hr =>
      have hl2 : 5 + bodyLen l ≤ l.length := by simp only [partOk, decide_eq_true_eq] at hp2; exact hp2
      have HV := Lib.hid hv
      cases hp : partOk l 3
      · have HC := Lib.hid (sum_no _ _ _ _ _ l _ _ hr HSV.out (Nat.le_refl _) (Nat.le_refl _) hl2 hp)
        have HN : Hid (isRec l = false) := by unfold Hid isRec; rw [hp]; simp
        clear hr hp hp0 hp1 hp2 hv hl2
        go_wp2_with fail
        refine HC.out.mono ?_
        rintro e w1 ⟨rfl, hb⟩
        have HB := Lib.hid hb; clear hb
        go_wp2
        exact bodyPost_ret (v := .tuple #[.int .u8 0, .slice none 0 0, .int .i64 0, .int .i64 2]) (by simp [results, go_sem]) rfl (took_no HN.out HB.out)
      · have HC := Lib.hid (sum_yes _ _ _ _ _ l _ _ hr HSV.out (Nat.le_refl _) (Nat.le_refl _) hp)
        have HY : Hid (isRec l = true) := by unfold Hid isRec; rw [hp0, hp1, hp2, hp]; rfl
        clear hr hp hp0 hp1 hp2 hv hl2
        go_wp2_with fail
        refine HC.out.mono ?_
        rintro e w1 ⟨rfl, hr⟩
        have HR := Lib.hid hr; clear hr
        go_wp2
        go_roundw
        case rel => exact .r4 v HY.out HV.out HR.out
        case measure => decide
    | r4 v hp hv hr =>
      clear hi0 hi1 hi2 hi3
      have HV := Lib.hid hv
      have HP := Lib.hid hp
      have c1 := cells_of hr.1 1
      have c3 := cells_of hr.1 3
      have c4 := cells_of hr.1 4
      simp only [List.getElem?_toArray, List.getElem?_cons_zero, List.getElem?_cons_succ] at c1 c3 c4
      have hpl : (pc l 5 (bodyLen l)).length ≤ 17592186044416 := by simp only [pc, List.length_take, List.length_drop]; omega
      have HC := Lib.hid (clone_body hv hpl hr)
      clear hr hv hp hpl
      go_wp2
      go_region_with (go_at_call 71; refine (HC.out _ (by rfl) (by rfl) (by rfl) (by rfl)).mono ?_; rintro e w4 ⟨v', rfl, d1, d3, ho, hb⟩)
      all_goals
        have HO := Lib.hid ho
        have HB := Lib.hid hb
        clear ho hb d1 d3
        go_wp2
        exact bodyPost_ret (v := .tuple #[.int .u8 (atB l 4 : Nat), v', .int .i64 (9 + bodyLen l : Nat), .int .i64 0]) (by simp [results, go_sem]) rfl (took_yes HP.out HB.out HO.out)
end Go.Proofs.YtlagllhhahomlaaGreat.Rc
