/- The law DiskForms, cut at its loop's head: what is run, round by round. -/
import Derived.Test.YtlgajamiigpedaaAbsM
import Derived.Test.YtlgajamiigpedaaAbsN
namespace Go.Abs
open Go.RowKit Go.Proofs

/-- The list of the functions that are followed. -/
def IsTab (l : List (Nat × Func)) : Prop := l = [(7, Try.f7), (12, Try.f12), (13, Try.f13), (14, Try.f14), (15, Try.f15), (16, Try.f16), (17, Try.f17), (18, Try.f18), (19, Try.f19), (20, Try.f20), (21, Try.f21), (22, Try.f22), (23, Try.f23), (24, Try.f24), (25, Try.f25), (26, Try.f26), (27, Try.f27), (28, Try.f28), (29, Try.f29), (30, Try.f30), (31, Try.f31), (32, Try.f32), (33, Try.f33), (34, Try.f34), (35, Try.f35), (36, Try.f36), (37, Try.f37), (38, Try.f38), (39, Try.f39), (40, Try.f40), (41, Try.f41), (42, Try.f42), (44, Try.f44), (45, Try.f45), (46, Try.f46), (47, Try.f47), (48, Try.f48), (49, Try.f49), (50, Try.f50), (51, Try.f51), (52, Try.f52), (56, Try.f56), (58, Try.f58)]

theorem tab_ok {l : List (Nat × Func)} (h : IsTab l) : TableOK Try.prog (tableOf l) := by
  unfold IsTab at h
  subst h
  exact tableOf_ok
    (.cons (by decide) Try.func7 (show (Try.f7.name == "runtime.NumGoroutine") = false by kernel_rfl)
    (.cons (by decide) Try.func12 (show (Try.f12.name == "runtime.NumGoroutine") = false by kernel_rfl)
    (.cons (by decide) Try.func13 (show (Try.f13.name == "runtime.NumGoroutine") = false by kernel_rfl)
    (.cons (by decide) Try.func14 (show (Try.f14.name == "runtime.NumGoroutine") = false by kernel_rfl)
    (.cons (by decide) Try.func15 (show (Try.f15.name == "runtime.NumGoroutine") = false by kernel_rfl)
    (.cons (by decide) Try.func16 (show (Try.f16.name == "runtime.NumGoroutine") = false by kernel_rfl)
    (.cons (by decide) Try.func17 (show (Try.f17.name == "runtime.NumGoroutine") = false by kernel_rfl)
    (.cons (by decide) Try.func18 (show (Try.f18.name == "runtime.NumGoroutine") = false by kernel_rfl)
    (.cons (by decide) Try.func19 (show (Try.f19.name == "runtime.NumGoroutine") = false by kernel_rfl)
    (.cons (by decide) Try.func20 (show (Try.f20.name == "runtime.NumGoroutine") = false by kernel_rfl)
    (.cons (by decide) Try.func21 (show (Try.f21.name == "runtime.NumGoroutine") = false by kernel_rfl)
    (.cons (by decide) Try.func22 (show (Try.f22.name == "runtime.NumGoroutine") = false by kernel_rfl)
    (.cons (by decide) Try.func23 (show (Try.f23.name == "runtime.NumGoroutine") = false by kernel_rfl)
    (.cons (by decide) Try.func24 (show (Try.f24.name == "runtime.NumGoroutine") = false by kernel_rfl)
    (.cons (by decide) Try.func25 (show (Try.f25.name == "runtime.NumGoroutine") = false by kernel_rfl)
    (.cons (by decide) Try.func26 (show (Try.f26.name == "runtime.NumGoroutine") = false by kernel_rfl)
    (.cons (by decide) Try.func27 (show (Try.f27.name == "runtime.NumGoroutine") = false by kernel_rfl)
    (.cons (by decide) Try.func28 (show (Try.f28.name == "runtime.NumGoroutine") = false by kernel_rfl)
    (.cons (by decide) Try.func29 (show (Try.f29.name == "runtime.NumGoroutine") = false by kernel_rfl)
    (.cons (by decide) Try.func30 (show (Try.f30.name == "runtime.NumGoroutine") = false by kernel_rfl)
    (.cons (by decide) Try.func31 (show (Try.f31.name == "runtime.NumGoroutine") = false by kernel_rfl)
    (.cons (by decide) Try.func32 (show (Try.f32.name == "runtime.NumGoroutine") = false by kernel_rfl)
    (.cons (by decide) Try.func33 (show (Try.f33.name == "runtime.NumGoroutine") = false by kernel_rfl)
    (.cons (by decide) Try.func34 (show (Try.f34.name == "runtime.NumGoroutine") = false by kernel_rfl)
    (.cons (by decide) Try.func35 (show (Try.f35.name == "runtime.NumGoroutine") = false by kernel_rfl)
    (.cons (by decide) Try.func36 (show (Try.f36.name == "runtime.NumGoroutine") = false by kernel_rfl)
    (.cons (by decide) Try.func37 (show (Try.f37.name == "runtime.NumGoroutine") = false by kernel_rfl)
    (.cons (by decide) Try.func38 (show (Try.f38.name == "runtime.NumGoroutine") = false by kernel_rfl)
    (.cons (by decide) Try.func39 (show (Try.f39.name == "runtime.NumGoroutine") = false by kernel_rfl)
    (.cons (by decide) Try.func40 (show (Try.f40.name == "runtime.NumGoroutine") = false by kernel_rfl)
    (.cons (by decide) Try.func41 (show (Try.f41.name == "runtime.NumGoroutine") = false by kernel_rfl)
    (.cons (by decide) Try.func42 (show (Try.f42.name == "runtime.NumGoroutine") = false by kernel_rfl)
    (.cons (by decide) Try.func44 (show (Try.f44.name == "runtime.NumGoroutine") = false by kernel_rfl)
    (.cons (by decide) Try.func45 (show (Try.f45.name == "runtime.NumGoroutine") = false by kernel_rfl)
    (.cons (by decide) Try.func46 (show (Try.f46.name == "runtime.NumGoroutine") = false by kernel_rfl)
    (.cons (by decide) Try.func47 (show (Try.f47.name == "runtime.NumGoroutine") = false by kernel_rfl)
    (.cons (by decide) Try.func48 (show (Try.f48.name == "runtime.NumGoroutine") = false by kernel_rfl)
    (.cons (by decide) Try.func49 (show (Try.f49.name == "runtime.NumGoroutine") = false by kernel_rfl)
    (.cons (by decide) Try.func50 (show (Try.f50.name == "runtime.NumGoroutine") = false by kernel_rfl)
    (.cons (by decide) Try.func51 (show (Try.f51.name == "runtime.NumGoroutine") = false by kernel_rfl)
    (.cons (by decide) Try.func52 (show (Try.f52.name == "runtime.NumGoroutine") = false by kernel_rfl)
    (.cons (by decide) Try.func56 (show (Try.f56.name == "runtime.NumGoroutine") = false by kernel_rfl)
    (.cons (by decide) Try.func58 (show (Try.f58.name == "runtime.NumGoroutine") = false by kernel_rfl) .nil)))))))))))))))))))))))))))))))))))))))))))

/-- The loop's body. -/
def loopBody (c : Code) : Code := (rootLoops c).headD .skip

/-- The state at the loop's head, where the counter is i. -/
def headAt (P : Program) (cf : CallF) (fn : Func) (c : Code) (i : Nat) : Option St := (headOf P cf 100 fn c).bind fun s => some (setReg s 3 (.int .i64 i))

def step7 (P : Program) (cf : CallF) (fn : Func) (c : Code) (i : Nat) : Bool :=
  match headAt P cf fn c i, headAt P cf fn c (i + 1) with
  | some s, some t => stepB P cf 100 (loopBody c) s t
  | _, _ => false

def ends7 (P : Program) (cf : CallF) (fn : Func) (c : Code) (k : Nat) : Bool :=
  match headOf P cf 100 fn c, headAt P cf fn c 0, headAt P cf fn c k with
  | some s, some t, some u => weaker t s && lastB P cf 100 (loopBody c) 0 u && endB P cf 100 fn c s u 0
  | _, _, _ => false
end Go.Abs
