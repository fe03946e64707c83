/- The small interpreter at this program: calls of which it answers true; and one such call, of 'begun', taken for granted by the others. -/
import Derived.Test.YtobhhedggppneaaAbsL
namespace Go.Abs
open Go.RowKit Go.Proofs

/-- Is every outcome the value true? -/
def allTrue : Option (List (AV × Heap)) → Bool
  | some l => l.all fun p => match p.1 with
    | .bool true => true
    | _ => false
  | none => false

theorem allTrue_spec {x : Option (List (AV × Heap))} (h : allTrue x = true) : ∃ l, x = some l ∧ ∀ out ∈ l, out.1 = .bool true := by
  cases x with
  | none => cases h
  | some l =>
    refine ⟨l, rfl, fun out ho => ?_⟩
    have := List.all_eq_true.1 h out ho
    split at this
    · assumption
    · cases this

/-- The interpreter, with what is known of other functions, answers true of a call. -/
def SaysTrue (ext : CallF) (f : FuncId) (fn : Func) (args : List AV) : Prop :=
  ∃ l, TableOK Try.prog (tableOf l) ∧ lookF (tableOf l) f = some fn ∧ allTrue (callN Try.prog (tableOf l) ext 100 20 f args .empty) = true

/-- A call of which the interpreter answers true: every run returns true, and what was there before is as it was. -/
theorem calls_true {ext : CallF} (hext : CallOK Try.prog ext) {f : FuncId} {fn : Func} {args : List AV} (h : SaysTrue ext f fn args)
    {vals : Array Value} (hr : RepL [] args vals.toList) (w : World) : Calls Try.prog f vals w fun e w' => e = .returned (.bool true) ∧ Below w.heap.size w w' := by
  obtain ⟨l, h1, h2, h3⟩ := h
  obtain ⟨outs, h4, h5⟩ := allTrue_spec h3
  refine (calls_of_run (by kernel_rfl) h1 hext h2 h4 hr w).mono ?_
  rintro e w' ⟨out, ho, σ', v, rfl, hv, hb⟩
  rw [h5 out ho] at hv
  simp only [Rep] at hv
  exact ⟨by rw [hv], hb⟩

theorem run7 : SaysTrue ext 7 Try.f7 [] :=
  ⟨[(7, Try.f7), (9, Try.f9), (10, Try.f10), (11, Try.f11), (12, Try.f12), (13, Try.f13), (14, Try.f14), (15, Try.f15), (16, Try.f16), (17, Try.f17), (18, Try.f18), (19, Try.f19), (20, Try.f20), (21, Try.f21), (22, Try.f22), (23, Try.f23), (24, Try.f24), (25, Try.f25), (26, Try.f26), (27, Try.f27), (28, Try.f28), (29, Try.f29), (30, Try.f30), (31, Try.f31), (32, Try.f32), (33, Try.f33), (34, Try.f34), (35, Try.f35), (36, Try.f36), (37, Try.f37), (39, Try.f39), (40, Try.f40), (41, Try.f41), (42, Try.f42), (43, Try.f43), (44, Try.f44), (45, Try.f45), (46, Try.f46), (50, Try.f50), (52, Try.f52)], tableOf_ok
    (.cons (by decide) Try.func7 (show (Try.f7.name == "runtime.NumGoroutine") = false by kernel_rfl)
    (.cons (by decide) Try.func9 (show (Try.f9.name == "runtime.NumGoroutine") = false by kernel_rfl)
    (.cons (by decide) Try.func10 (show (Try.f10.name == "runtime.NumGoroutine") = false by kernel_rfl)
    (.cons (by decide) Try.func11 (show (Try.f11.name == "runtime.NumGoroutine") = false by kernel_rfl)
    (.cons (by decide) Try.func12 (show (Try.f12.name == "runtime.NumGoroutine") = false by kernel_rfl)
    (.cons (by decide) Try.func13 (show (Try.f13.name == "runtime.NumGoroutine") = false by kernel_rfl)
    (.cons (by decide) Try.func14 (show (Try.f14.name == "runtime.NumGoroutine") = false by kernel_rfl)
    (.cons (by decide) Try.func15 (show (Try.f15.name == "runtime.NumGoroutine") = false by kernel_rfl)
    (.cons (by decide) Try.func16 (show (Try.f16.name == "runtime.NumGoroutine") = false by kernel_rfl)
    (.cons (by decide) Try.func17 (show (Try.f17.name == "runtime.NumGoroutine") = false by kernel_rfl)
    (.cons (by decide) Try.func18 (show (Try.f18.name == "runtime.NumGoroutine") = false by kernel_rfl)
    (.cons (by decide) Try.func19 (show (Try.f19.name == "runtime.NumGoroutine") = false by kernel_rfl)
    (.cons (by decide) Try.func20 (show (Try.f20.name == "runtime.NumGoroutine") = false by kernel_rfl)
    (.cons (by decide) Try.func21 (show (Try.f21.name == "runtime.NumGoroutine") = false by kernel_rfl)
    (.cons (by decide) Try.func22 (show (Try.f22.name == "runtime.NumGoroutine") = false by kernel_rfl)
    (.cons (by decide) Try.func23 (show (Try.f23.name == "runtime.NumGoroutine") = false by kernel_rfl)
    (.cons (by decide) Try.func24 (show (Try.f24.name == "runtime.NumGoroutine") = false by kernel_rfl)
    (.cons (by decide) Try.func25 (show (Try.f25.name == "runtime.NumGoroutine") = false by kernel_rfl)
    (.cons (by decide) Try.func26 (show (Try.f26.name == "runtime.NumGoroutine") = false by kernel_rfl)
    (.cons (by decide) Try.func27 (show (Try.f27.name == "runtime.NumGoroutine") = false by kernel_rfl)
    (.cons (by decide) Try.func28 (show (Try.f28.name == "runtime.NumGoroutine") = false by kernel_rfl)
    (.cons (by decide) Try.func29 (show (Try.f29.name == "runtime.NumGoroutine") = false by kernel_rfl)
    (.cons (by decide) Try.func30 (show (Try.f30.name == "runtime.NumGoroutine") = false by kernel_rfl)
    (.cons (by decide) Try.func31 (show (Try.f31.name == "runtime.NumGoroutine") = false by kernel_rfl)
    (.cons (by decide) Try.func32 (show (Try.f32.name == "runtime.NumGoroutine") = false by kernel_rfl)
    (.cons (by decide) Try.func33 (show (Try.f33.name == "runtime.NumGoroutine") = false by kernel_rfl)
    (.cons (by decide) Try.func34 (show (Try.f34.name == "runtime.NumGoroutine") = false by kernel_rfl)
    (.cons (by decide) Try.func35 (show (Try.f35.name == "runtime.NumGoroutine") = false by kernel_rfl)
    (.cons (by decide) Try.func36 (show (Try.f36.name == "runtime.NumGoroutine") = false by kernel_rfl)
    (.cons (by decide) Try.func37 (show (Try.f37.name == "runtime.NumGoroutine") = false by kernel_rfl)
    (.cons (by decide) Try.func39 (show (Try.f39.name == "runtime.NumGoroutine") = false by kernel_rfl)
    (.cons (by decide) Try.func40 (show (Try.f40.name == "runtime.NumGoroutine") = false by kernel_rfl)
    (.cons (by decide) Try.func41 (show (Try.f41.name == "runtime.NumGoroutine") = false by kernel_rfl)
    (.cons (by decide) Try.func42 (show (Try.f42.name == "runtime.NumGoroutine") = false by kernel_rfl)
    (.cons (by decide) Try.func43 (show (Try.f43.name == "runtime.NumGoroutine") = false by kernel_rfl)
    (.cons (by decide) Try.func44 (show (Try.f44.name == "runtime.NumGoroutine") = false by kernel_rfl)
    (.cons (by decide) Try.func45 (show (Try.f45.name == "runtime.NumGoroutine") = false by kernel_rfl)
    (.cons (by decide) Try.func46 (show (Try.f46.name == "runtime.NumGoroutine") = false by kernel_rfl)
    (.cons (by decide) Try.func50 (show (Try.f50.name == "runtime.NumGoroutine") = false by kernel_rfl)
    (.cons (by decide) Try.func52 (show (Try.f52.name == "runtime.NumGoroutine") = false by kernel_rfl) .nil)))))))))))))))))))))))))))))))))))))))), by kernel_rfl, by kernel_rfl⟩

/-- begun, as the laws by hand want it. -/
theorem begun_any (w : World) : Calls Try.prog 7 #[] w fun e w' => e = .returned (.bool true) ∧ Below w.heap.size w w' := calls_true ext_ok run7 (vals := #[]) (by simp [RepL]) w
end Go.Abs
