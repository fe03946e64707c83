/- Events in a program: what is taken. -/
import Derived.Test.YtjjcfflgndclkaaEvG
import Derived.Test.YtjjcfflgndclkaaEvDP
import Derived.Deep.RegionWith
namespace Go.Proofs.Ytjjcfflgndclkaa
open Go Go.RowKit Go.By

theorem rdText_none2 : (rdText none).2 = none := rfl
theorem rdTake_none2 (n : Nat) : (rdTake n none).2 = none := rfl
theorem rdEv_s (s : Option (List Nat)) : (rdEv s).s = (rdText (rdText (rdText (rdTake 8 (rdTake 8 s).2).2).2).2).2 := rfl
theorem rdEv_of {l a b c : List Nat} {i j k : Nat} (h0 : 16 ≤ l.length) (h1 : rdText (some (l.drop 16)) = (a, some (l.drop i))) (h2 : rdText (some (l.drop i)) = (b, some (l.drop j))) (h3 : rdText (some (l.drop j)) = (c, some (l.drop k))) :
    rdEv (some l) = ⟨pc l 0 8, pc l 8 8, a, b, c, some (l.drop k)⟩ := by
  have e1 : rdTake 8 (some l) = (pc l 0 8, some (l.drop 8)) := rdTake_at (l := l) (i := 0) (n := 8) (by omega)
  have e2 : rdTake 8 (some (l.drop 8)) = (pc l 8 8, some (l.drop 16)) := rdTake_at (l := l) (i := 8) (n := 8) (by omega)
  unfold rdEv
  simp only [e1, e2, h1, h2, h3]
theorem no0 {l : List Nat} (h : l.length < 0 + 8) : takeEv l = none := takeEv_bad (by
  have e : rdTake 8 (some l) = ([], none) := rdTake_no (l := l) (i := 0) (n := 8) (by omega) (by omega)
  rw [rdEv_s, e, rdTake_none2, rdText_none2, rdText_none2, rdText_none2]
  intro h; cases h)
theorem no1 {l : List Nat} (h0 : 8 ≤ l.length) (h : l.length < 8 + 8) : takeEv l = none := takeEv_bad (by
  have e1 : rdTake 8 (some l) = (pc l 0 8, some (l.drop 8)) := rdTake_at (l := l) (i := 0) (n := 8) (by omega)
  have e2 : rdTake 8 (some (l.drop 8)) = ([], none) := rdTake_no (by omega) (by omega)
  rw [rdEv_s, e1, e2, rdText_none2, rdText_none2, rdText_none2]
  intro h; cases h)
theorem no2 {l : List Nat} (h0 : 16 ≤ l.length) (h : ¬ (16 + 1 + atB l 16 ≤ l.length)) : takeEv l = none := takeEv_bad (by
  have e1 : rdTake 8 (some l) = (pc l 0 8, some (l.drop 8)) := rdTake_at (l := l) (i := 0) (n := 8) (by omega)
  have e2 : rdTake 8 (some (l.drop 8)) = (pc l 8 8, some (l.drop 16)) := rdTake_at (l := l) (i := 8) (n := 8) (by omega)
  rw [rdEv_s, e1, e2, rdText_no h, rdText_none2, rdText_none2]
  intro h; cases h)
theorem no3 {l a : List Nat} {i : Nat} (h0 : 16 ≤ l.length) (h1 : rdText (some (l.drop 16)) = (a, some (l.drop i))) (h : ¬ (i + 1 + atB l i ≤ l.length)) : takeEv l = none := takeEv_bad (by
  have e1 : rdTake 8 (some l) = (pc l 0 8, some (l.drop 8)) := rdTake_at (l := l) (i := 0) (n := 8) (by omega)
  have e2 : rdTake 8 (some (l.drop 8)) = (pc l 8 8, some (l.drop 16)) := rdTake_at (l := l) (i := 8) (n := 8) (by omega)
  rw [rdEv_s, e1, e2, h1, rdText_no h, rdText_none2]
  intro h; cases h)
theorem no4 {l a b : List Nat} {i j : Nat} (h0 : 16 ≤ l.length) (h1 : rdText (some (l.drop 16)) = (a, some (l.drop i))) (h2 : rdText (some (l.drop i)) = (b, some (l.drop j))) (h : ¬ (j + 1 + atB l j ≤ l.length)) : takeEv l = none := takeEv_bad (by
  have e1 : rdTake 8 (some l) = (pc l 0 8, some (l.drop 8)) := rdTake_at (l := l) (i := 0) (n := 8) (by omega)
  have e2 : rdTake 8 (some (l.drop 8)) = (pc l 8 8, some (l.drop 16)) := rdTake_at (l := l) (i := 8) (n := 8) (by omega)
  rw [rdEv_s, e1, e2, h1, h2, rdText_no h]
  intro h; cases h)
theorem no5 {l a b c : List Nat} {i j k : Nat} (h0 : 16 ≤ l.length) (h1 : rdText (some (l.drop 16)) = (a, some (l.drop i))) (h2 : rdText (some (l.drop i)) = (b, some (l.drop j))) (h3 : rdText (some (l.drop j)) = (c, some (l.drop k))) (hk : k ≤ l.length) (h : k ≠ l.length) : takeEv l = none := takeEv_bad (by
  rw [rdEv_of h0 h1 h2 h3]
  intro h4
  have := congrArg List.length (Option.some.inj h4)
  rw [List.length_drop] at this
  simp at this
  omega)

theorem index0 (f1 f2 f3 f4 f5 f6 f7 : FuncId) (a : Value) (w : World) : (Instr.index 40 (.agg #[.func (.func f1) #[a] #[], .func (.func f2) #[a] #[], .func (.func f3) #[a] #[], .func (.func f4) #[a] #[], .func (.func f5) #[a] #[], .func (.func f6) #[a] #[], .func (.func f7) #[a] #[]]) (.int .i64 0)).run Try.prog w = .ok (.func (.func f1) #[a] #[]) w := by kernel_rfl
theorem index1 (f1 f2 f3 f4 f5 f6 f7 : FuncId) (a : Value) (w : World) : (Instr.index 40 (.agg #[.func (.func f1) #[a] #[], .func (.func f2) #[a] #[], .func (.func f3) #[a] #[], .func (.func f4) #[a] #[], .func (.func f5) #[a] #[], .func (.func f6) #[a] #[], .func (.func f7) #[a] #[]]) (.int .i64 1)).run Try.prog w = .ok (.func (.func f2) #[a] #[]) w := by kernel_rfl
theorem index2 (f1 f2 f3 f4 f5 f6 f7 : FuncId) (a : Value) (w : World) : (Instr.index 40 (.agg #[.func (.func f1) #[a] #[], .func (.func f2) #[a] #[], .func (.func f3) #[a] #[], .func (.func f4) #[a] #[], .func (.func f5) #[a] #[], .func (.func f6) #[a] #[], .func (.func f7) #[a] #[]]) (.int .i64 2)).run Try.prog w = .ok (.func (.func f3) #[a] #[]) w := by kernel_rfl
theorem index3 (f1 f2 f3 f4 f5 f6 f7 : FuncId) (a : Value) (w : World) : (Instr.index 40 (.agg #[.func (.func f1) #[a] #[], .func (.func f2) #[a] #[], .func (.func f3) #[a] #[], .func (.func f4) #[a] #[], .func (.func f5) #[a] #[], .func (.func f6) #[a] #[], .func (.func f7) #[a] #[]]) (.int .i64 3)).run Try.prog w = .ok (.func (.func f4) #[a] #[]) w := by kernel_rfl
theorem index4 (f1 f2 f3 f4 f5 f6 f7 : FuncId) (a : Value) (w : World) : (Instr.index 40 (.agg #[.func (.func f1) #[a] #[], .func (.func f2) #[a] #[], .func (.func f3) #[a] #[], .func (.func f4) #[a] #[], .func (.func f5) #[a] #[], .func (.func f6) #[a] #[], .func (.func f7) #[a] #[]]) (.int .i64 4)).run Try.prog w = .ok (.func (.func f5) #[a] #[]) w := by kernel_rfl
theorem index5 (f1 f2 f3 f4 f5 f6 f7 : FuncId) (a : Value) (w : World) : (Instr.index 40 (.agg #[.func (.func f1) #[a] #[], .func (.func f2) #[a] #[], .func (.func f3) #[a] #[], .func (.func f4) #[a] #[], .func (.func f5) #[a] #[], .func (.func f6) #[a] #[], .func (.func f7) #[a] #[]]) (.int .i64 5)).run Try.prog w = .ok (.func (.func f6) #[a] #[]) w := by kernel_rfl
theorem index6 (f1 f2 f3 f4 f5 f6 f7 : FuncId) (a : Value) (w : World) : (Instr.index 40 (.agg #[.func (.func f1) #[a] #[], .func (.func f2) #[a] #[], .func (.func f3) #[a] #[], .func (.func f4) #[a] #[], .func (.func f5) #[a] #[], .func (.func f6) #[a] #[], .func (.func f7) #[a] #[]]) (.int .i64 6)).run Try.prog w = .ok (.func (.func f7) #[a] #[]) w := by kernel_rfl
/-- How far it has come. -/
inductive TkRel (w1 : World) (sv : Value) (l : List Nat) : Value → World → Prop where
  | r0 {w : World} : Ro w1.heap.size w1.heap.size w1 w sv 0 0 ⟨#[]⟩ 0 ⟨#[]⟩ (.slice none 0 0) → TkRel w1 sv l (.int .i64 0) w
  | r1 {w : World} : 8 ≤ l.length → Ro w1.heap.size w1.heap.size w1 w sv 8 (wrap64 (numOf (pc l 0 8) : Nat)) ⟨#[]⟩ 0 ⟨#[]⟩ (.slice none 0 0) → TkRel w1 sv l (.int .i64 1) w
  | r2 {w : World} : 16 ≤ l.length → Ro w1.heap.size w1.heap.size w1 w sv 16 (wrap64 (numOf (pc l 0 8) : Nat)) ⟨#[]⟩ (wrap64 (numOf (pc l 8 8) : Nat)) ⟨#[]⟩ (.slice none 0 0) → TkRel w1 sv l (.int .i64 2) w
  | r3 {w : World} {i : Nat} {a : List Nat} : 16 ≤ l.length → i ≤ l.length → rdText (some (l.drop 16)) = (a, some (l.drop i)) → Ro w1.heap.size w1.heap.size w1 w sv i (wrap64 (numOf (pc l 0 8) : Nat)) (strOf a) (wrap64 (numOf (pc l 8 8) : Nat)) ⟨#[]⟩ (.slice none 0 0) → TkRel w1 sv l (.int .i64 3) w
  | r4 {w : World} {i j : Nat} {a b : List Nat} : 16 ≤ l.length → j ≤ l.length → rdText (some (l.drop 16)) = (a, some (l.drop i)) → rdText (some (l.drop i)) = (b, some (l.drop j)) → Ro w1.heap.size w1.heap.size w1 w sv j (wrap64 (numOf (pc l 0 8) : Nat)) (strOf a) (wrap64 (numOf (pc l 8 8) : Nat)) (strOf b) (.slice none 0 0) → TkRel w1 sv l (.int .i64 4) w
  | r5 {w : World} {i j k : Nat} {a b c : List Nat} {d : Value} : 16 ≤ l.length → k ≤ l.length → rdText (some (l.drop 16)) = (a, some (l.drop i)) → rdText (some (l.drop i)) = (b, some (l.drop j)) → rdText (some (l.drop j)) = (c, some (l.drop k)) → Bytes w d c → Ro w1.heap.size w1.heap.size w1 w sv k (wrap64 (numOf (pc l 0 8) : Nat)) (strOf a) (wrap64 (numOf (pc l 8 8) : Nat)) (strOf b) d → TkRel w1 sv l (.int .i64 5) w
  | r6 {w : World} {k : Nat} {s t : ByteArray} {d : Value} : (rdEv (some l)).s = some [] → IsEv w (evVal (wrap64 (numOf (pc l 0 8) : Nat)) (wrap64 (numOf (pc l 8 8) : Nat)) s t d) (evRd (rdEv (some l))) (wrap64 (numOf (pc l 0 8) : Nat)) (wrap64 (numOf (pc l 8 8) : Nat)) s t d → Ro w1.heap.size w1.heap.size w1 w sv k (wrap64 (numOf (pc l 0 8) : Nat)) s (wrap64 (numOf (pc l 8 8) : Nat)) t d → TkRel w1 sv l (.int .i64 6) w
  | r7 {w : World} {k : Nat} {s t : ByteArray} {d : Value} : takeEv l = some (evRd (rdEv (some l))) → IsEv w (evVal (wrap64 (numOf (pc l 0 8) : Nat)) (wrap64 (numOf (pc l 8 8) : Nat)) s t d) (evRd (rdEv (some l))) (wrap64 (numOf (pc l 0 8) : Nat)) (wrap64 (numOf (pc l 8 8) : Nat)) s t d → Ro w1.heap.size w1.heap.size w1 w sv k (wrap64 (numOf (pc l 0 8) : Nat)) s (wrap64 (numOf (pc l 8 8) : Nat)) t d → TkRel w1 sv l (.int .i64 7) w

/-- What Take answers. -/
def Tells (w : World) (l : List Nat) (z : Ending) (w' : World) : Prop :=
  ((takeEv l = none ∧ z = .returned (.tuple #[evVal 0 0 ⟨#[]⟩ ⟨#[]⟩ (.slice none 0 0), .int .i64 2])) ∨
    ∃ ev x q r s t u, takeEv l = some ev ∧ z = .returned (.tuple #[x, .int .i64 0]) ∧ IsEv w' x ev q r s t u) ∧ Below w.heap.size w w'

theorem strOf_le {l m : List Nat} (hl : l.length ≤ maxLen) (h : m.length ≤ l.length) : (strOf m).size ≤ maxLen := strOf_max (by omega)
theorem rdText_le {l a : List Nat} {i j : Nat} (h : rdText (some (l.drop i)) = (a, some (l.drop j))) : a.length ≤ l.length ∧ ∀ c ∈ a, c ∈ l := by
  have := rdText_some h
  have e := Option.some.inj this
  have h1 := congrArg List.length e
  rw [List.length_drop, List.length_append, txt_length] at h1
  refine ⟨by omega, fun c hc => List.mem_of_mem_drop (i := i) ?_⟩
  rw [e]
  simp [txt, hc]
/-- The event that was read. -/
theorem isEv_of {w : World} {l a b c : List Nat} {i j k : Nat} {d : Value} (hs : ∀ c ∈ l, c < 256) (hl : l.length ≤ maxLen) (h0 : 16 ≤ l.length) (h1 : rdText (some (l.drop 16)) = (a, some (l.drop i))) (h2 : rdText (some (l.drop i)) = (b, some (l.drop j))) (h3 : rdText (some (l.drop j)) = (c, some (l.drop k))) (hd : Bytes w d c) :
    IsEv w (evVal (wrap64 (numOf (pc l 0 8) : Nat)) (wrap64 (numOf (pc l 8 8) : Nat)) (strOf a) (strOf b) d) (evRd (rdEv (some l))) (wrap64 (numOf (pc l 0 8) : Nat)) (wrap64 (numOf (pc l 8 8) : Nat)) (strOf a) (strOf b) d := by
  have e := rdEv_of h0 h1 h2 h3
  have ha := rdText_le h1
  have hb := rdText_le h2
  refine ⟨rfl, ?_, by rw [e]; exact hd, by unfold wrap64; omega, by unfold wrap64; omega, strOf_le hl ha.1, strOf_le hl hb.1⟩
  rw [natsOf_strOf (fun c hc => hs c (ha.2 c hc)), natsOf_strOf (fun c hc => hs c (hb.2 c hc)), e]
  rfl
theorem IsEv.drew {w : World} {x : Value} {e : Ev} {q r : Int} {s t : ByteArray} {v : Value} (h : IsEv w x e q r s t v) : IsEv w.drew x e q r s t v :=
  ⟨h.val, h.ev, bytes_drewN h.da 1, h.q63, h.r63, h.s63, h.t63⟩
theorem took_ret {tmps : Array Value} {w : World} {A : Nat} {cs : Array Value} {x : Value} (hp : tmps.getD 2 undef = .pointer (some ⟨A, 0, none⟩)) (hx : tmps.getD 3 undef = x) (hg : w.heap[A]? = some (.cells cs 24 (0, 0))) (hc : cs.size = 5) :
    (results Try.f8 tmps).run Try.prog w = .ok (.tuple #[.agg cs, x]) w := by
  have hi : (Try.prog.info? 24).map (·.size) = some cs.size := by rw [hc]; kernel_rfl
  have hq : (Try.prog.underlying 24).map (fun d => match d with | .struct _ | .array _ _ => true | _ => false) = some true := by kernel_rfl
  obtain ⟨d, hu, hd⟩ := Option.map_eq_some_iff.1 hq
  rw [results_cell_tmp (p := 2) (u := 3) (ty := 24) (by kernel_rfl), hp, hx]
  have := run_loadVar_row (P := Try.prog) w A 24 24 cs (0, 0) d hg hu (by cases d <;> simp_all) hi
  simp [asAddr, this, Result.andThen]
/-- One part: which method, what it tells. -/
structure Step (w1 : World) (sv : Value) (l : List Nat) (k : Nat) (wr : World) (f : FuncId) : Prop where
  enter : ∀ args w, (callFunc f args).run Try.prog w = .ok (.enter f args) w
  index : ∀ w, (Instr.index 40 (.agg #[.func (.func 17) #[.pointer (some ⟨w1.heap.size, 0, none⟩)] #[], .func (.func 18) #[.pointer (some ⟨w1.heap.size, 0, none⟩)] #[], .func (.func 19) #[.pointer (some ⟨w1.heap.size, 0, none⟩)] #[], .func (.func 20) #[.pointer (some ⟨w1.heap.size, 0, none⟩)] #[], .func (.func 21) #[.pointer (some ⟨w1.heap.size, 0, none⟩)] #[], .func (.func 22) #[.pointer (some ⟨w1.heap.size, 0, none⟩)] #[], .func (.func 23) #[.pointer (some ⟨w1.heap.size, 0, none⟩)] #[]]) (.int .i64 (k : Nat))).run Try.prog w = .ok (.func (.func f) #[(.pointer (some ⟨w1.heap.size, 0, none⟩))] #[]) w
  call : Calls Try.prog f #[(.pointer (some ⟨w1.heap.size, 0, none⟩))] wr fun e w' => (e = .returned (.bool true) ∧ TkRel w1 sv l (.int .i64 (k + 1 : Nat)) w') ∨ (e = .returned (.bool false) ∧ takeEv l = none ∧ Below w1.heap.size w1 w')

theorem step_any {w1 wr : World} {sv i : Value} {l : List Nat} (hsv : Bytes w1 sv l) (h : TkRel w1 sv l i wr) :
    (∃ k : Nat, k < 7 ∧ i = .int .i64 k ∧ ∃ f, Step w1 sv l k wr f) ∨ (i = .int .i64 7 ∧ TkRel w1 sv l (.int .i64 7) wr) := by
  cases h with
  | r0 hr =>
    refine .inl ⟨0, by decide, rfl, 17, fun args w => by kernel_rfl, index0 _ _ _ _ _ _ _ _, ?_⟩
    by_cases hp : 0 + 8 ≤ l.length
    · refine (seq_yes _ _ _ _ _ l _ _ _ _ _ _ hr hsv (Nat.le_refl _) (Nat.le_refl _) hp).mono ?_
      rintro e w2 ⟨rfl, hr⟩
      exact .inl ⟨rfl, .r1 (by omega) hr⟩
    · refine (seq_no _ _ _ _ _ l _ _ _ _ _ _ hr hsv (Nat.le_refl _) (by omega) (by omega)).mono ?_
      rintro e w2 ⟨rfl, hb⟩
      exact .inr ⟨rfl, no0 (by omega), hb⟩
  | r1 h0 hr =>
    refine .inl ⟨1, by decide, rfl, 18, fun args w => by kernel_rfl, index1 _ _ _ _ _ _ _ _, ?_⟩
    by_cases hp : 8 + 8 ≤ l.length
    · refine (ver_yes _ _ _ _ _ l _ _ _ _ _ _ hr hsv (Nat.le_refl _) (Nat.le_refl _) hp).mono ?_
      rintro e w2 ⟨rfl, hr⟩
      exact .inl ⟨rfl, .r2 (by omega) hr⟩
    · refine (ver_no _ _ _ _ _ l _ _ _ _ _ _ hr hsv (Nat.le_refl _) h0 (by omega)).mono ?_
      rintro e w2 ⟨rfl, hb⟩
      exact .inr ⟨rfl, no1 h0 (by omega), hb⟩
  | r2 h0 hr =>
    refine .inl ⟨2, by decide, rfl, 19, fun args w => by kernel_rfl, index2 _ _ _ _ _ _ _ _, ?_⟩
    by_cases hp : 16 + 1 + atB l 16 ≤ l.length
    · refine (stream_yes _ _ _ _ _ l _ _ _ _ _ _ hr hsv (Nat.le_refl _) (Nat.le_refl _) hp).mono ?_
      rintro e w2 ⟨rfl, hr⟩
      exact .inl ⟨rfl, .r3 h0 hp (rdText_at hp) hr⟩
    · refine (stream_no _ _ _ _ _ l _ _ _ _ _ _ hr hsv (Nat.le_refl _) (Nat.le_refl _) h0 hp).mono ?_
      rintro e w2 ⟨rfl, hb⟩
      exact .inr ⟨rfl, no2 h0 hp, hb⟩
  | r3 h0 hj h1 hr =>
    rename_i i0 a0
    refine .inl ⟨3, by decide, rfl, 20, fun args w => by kernel_rfl, index3 _ _ _ _ _ _ _ _, ?_⟩
    by_cases hp : i0 + 1 + atB l i0 ≤ l.length
    · refine (type_yes _ _ _ _ _ l _ _ _ _ _ _ hr hsv (Nat.le_refl _) (Nat.le_refl _) hp).mono ?_
      rintro e w2 ⟨rfl, hr⟩
      exact .inl ⟨rfl, .r4 h0 hp h1 (rdText_at hp) hr⟩
    · refine (type_no _ _ _ _ _ l _ _ _ _ _ _ hr hsv (Nat.le_refl _) (Nat.le_refl _) hj hp).mono ?_
      rintro e w2 ⟨rfl, hb⟩
      exact .inr ⟨rfl, no3 h0 h1 hp, hb⟩
  | r4 h0 hj h1 h2 hr =>
    rename_i i0 j0 a0 b0
    refine .inl ⟨4, by decide, rfl, 21, fun args w => by kernel_rfl, index4 _ _ _ _ _ _ _ _, ?_⟩
    by_cases hp : j0 + 1 + atB l j0 ≤ l.length
    · refine (data_yes _ _ _ _ _ l _ _ _ _ _ _ hr hsv (Nat.le_refl _) (Nat.le_refl _) hp).mono ?_
      rintro e w2 ⟨rfl, d2, hd, hr⟩
      exact .inl ⟨rfl, .r5 h0 hp h1 h2 (rdText_at hp) hd hr⟩
    · refine (data_no _ _ _ _ _ l _ _ _ _ _ _ hr hsv (Nat.le_refl _) (Nat.le_refl _) hj hp).mono ?_
      rintro e w2 ⟨rfl, hb⟩
      exact .inr ⟨rfl, no4 h0 h1 h2 hp, hb⟩
  | r5 h0 hk h1 h2 h3 hd hr =>
    rename_i i0 j0 k0 a0 b0 c0 d0
    refine .inl ⟨5, by decide, rfl, 22, fun args w => by kernel_rfl, index5 _ _ _ _ _ _ _ _, ?_⟩
    refine (end_any _ _ _ _ _ l _ _ _ _ _ _ hr hsv hk).mono ?_
    rintro e w2 ⟨rfl, rfl⟩
    by_cases hp : k0 = l.length
    · rw [decide_eq_true hp]
      exact .inl ⟨rfl, .r6 (by rw [rdEv_of h0 h1 h2 h3]; show some (l.drop k0) = some []; rw [hp, List.drop_length]) (isEv_of hsv.small hsv.short h0 h1 h2 h3 hd).drew hr.drew⟩
    · rw [decide_eq_false hp]
      exact .inr ⟨rfl, no5 h0 h1 h2 h3 hk hp, hr.drew.2⟩
  | r6 hs he hr =>
    refine .inl ⟨6, by decide, rfl, 23, fun args w => by kernel_rfl, index6 _ _ _ _ _ _ _ _, ?_⟩
    refine (be_any hr he).mono ?_
    rintro e w2 ⟨rfl, hb2⟩
    have hr2 := hr.below hb2 (Nat.le_refl _)
    have he2 := he.below hb2
    cases hm : mayEv (evRd (rdEv (some l))) with
    | true => exact .inl ⟨rfl, .r7 (takeEv_yes hs hm) he2 hr2⟩
    | false => exact .inr ⟨rfl, takeEv_not hm, hr2.2⟩
  | r7 hy he hr => exact .inr ⟨rfl, .r7 hy he hr⟩

set_option maxRecDepth 100000 in
set_option maxHeartbeats 4000000 in
theorem take_any (sv : Value) (l : List Nat) (w : World) (hsv : Bytes w sv l) :
    Calls Try.prog 8 #[sv] w (Tells w l) := by
  obtain ⟨p, cap, rfl, _⟩ := hsv.any
  obtain ⟨w1, hw1⟩ : ∃ W, W = w.alloc (.cells #[.int .i64 0, .string ⟨#[]⟩, .int .i64 0, .string ⟨#[]⟩, .slice none 0 0] 24) := ⟨_, rfl⟩
  have hz1 : w1.heap.size = w.heap.size + 1 := by rw [hw1]; simp
  have ha1 : AnsAt w1 w.heap.size := by rw [hw1]; exact heap_alloc_new w _
  have hb1 : Below w.heap.size w w1 := by rw [hw1]; exact (Below.refl _ _).alloc (Nat.le_refl _) _
  have HSV := Lib.hid (hsv.below hb1)
  clear hsv
  have HANS : Hid (∀ w', Below w1.heap.size w1 w' → AnsAt w' w.heap.size) := fun w' hb => (hb.block _ (by omega)).trans ha1
  have HBW : Hid (∀ w', Below w1.heap.size w1 w' → Below w.heap.size w w') := fun w' hb => hb1.trans (hb.mono (by omega))
  have h0 : Ro w1.heap.size w1.heap.size w1 (w1.alloc (.cells #[.slice p l.length cap, .int .i64 0, .int .i64 0, .string ⟨#[]⟩, .int .i64 0, .string ⟨#[]⟩, .slice none 0 0] 39)) (.slice p l.length cap) 0 0 ⟨#[]⟩ 0 ⟨#[]⟩ (.slice none 0 0) := ⟨heap_alloc_new w1 _, (Below.refl _ _).alloc (Nat.le_refl _) _⟩
  have H0 := Lib.hid h0
  have HW1 := Lib.hid hw1
  clear h0 hb1 ha1 hw1
  go_enter Try.func8, Try.ntmps8
  go_wp2
  rw [← HW1.out]
  rw [← hz1]
  clear hz1
  go_loopw [17] (fun i wr => TkRel w1 (.slice p l.length cap) l i wr) (fun i _ => 7 - (intOf i).toNat)
  case atStart => exact .r0 H0.out
  case round =>
    clear H0 HW1
    rcases step_any HSV.out hrel with ⟨k, hk, rfl, f, hst⟩ | ⟨rfl, hend⟩
    · have hent := hst.enter
      have hidx := hst.index
      have HC := Lib.hid hst.call
      have hki : (k : Int) < 7 := by omega
      clear hst hrel hk
      go_wp2_with fail
      refine HC.out.mono ?_
      clear hent hidx
      rintro e w2 (⟨rfl, hr⟩ | ⟨rfl, hn, hb⟩)
      · have HR := Lib.hid hr
        clear hr HC
        go_wp2
        go_roundw
        case rel => exact HR.out
        case measure => simp [intOf]; omega
      · have HN := Lib.hid hn
        have hA := HANS.out _ hb
        have a0 := cells_of hA 0; have a1 := cells_of hA 1; have a2 := cells_of hA 2; have a3 := cells_of hA 3; have a4 := cells_of hA 4
        have q0 := free_of hA 0; have q1 := free_of hA 1; have q2 := free_of hA 2; have q3 := free_of hA 3; have q4 := free_of hA 4
        have HX := Lib.hid (ans_set hA 0 0 ⟨#[]⟩ ⟨#[]⟩ (.slice none 0 0))
        have HBX := Lib.hid (ans_below (HBW.out _ hb) (Nat.le_refl _) 0 0 ⟨#[]⟩ ⟨#[]⟩ (.slice none 0 0))
        clear hA hb hn HC HANS HBW HSV
        go_wp2
        exact bodyPost_ret (took_ret rfl rfl HX.out rfl) rfl ⟨.inl ⟨HN.out, rfl⟩, HBX.out⟩
    · clear hrel
      cases hend with
      | r7 hy he hr =>
        rename_i k0 s0 t0 d0
        have HY := Lib.hid hy
        have hA := HANS.out _ hr.2
        have a0 := cells_of hA 0; have a1 := cells_of hA 1; have a2 := cells_of hA 2; have a3 := cells_of hA 3; have a4 := cells_of hA 4
        have q0 := free_of hA 0; have q1 := free_of hA 1; have q2 := free_of hA 2; have q3 := free_of hA 3; have q4 := free_of hA 4
        have c2 := cells_of hr.1 2
        have c3 := cells_of hr.1 3
        have c4 := cells_of hr.1 4
        have c5 := cells_of hr.1 5
        have c6 := cells_of hr.1 6
        simp only [List.getElem?_toArray, List.getElem?_cons_zero, List.getElem?_cons_succ] at c2 c3 c4 c5 c6
        generalize hQ1 : wrap64 (numOf (pc l 0 8) : Nat) = Q1 at *
        generalize hQ2 : wrap64 (numOf (pc l 8 8) : Nat) = Q2 at *
        obtain ⟨pd, cd, hd0, _⟩ := he.da.any
        have HX := Lib.hid (ans_set hA Q1 Q2 s0 t0 d0)
        have HBX := Lib.hid (ans_below (HBW.out _ hr.2) (Nat.le_refl _) Q1 Q2 s0 t0 d0)
        have HIX := Lib.hid (ans_isEv he hA Q1 Q2 s0 t0 d0)
        clear hy he hr hA hQ1 hQ2 HANS HBW HSV
        generalize (evRd (rdEv (some l))).da.length = LL at *
        subst hd0
        go_wp2
        exact bodyPost_ret (took_ret rfl rfl HX.out rfl) rfl ⟨.inr ⟨_, _, _, _, _, _, _, HY.out, rfl, HIX.out⟩, HBX.out⟩
end Go.Proofs.Ytjjcfflgndclkaa

