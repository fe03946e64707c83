/- The law DiskRoom: every call of it returns true, and all that was there before the call is as it was. No condition. -/
import Derived.Test.YtljhflkcikpoiaaRows
import Derived.Test.YtljhflkcikpoiaaDskU
import Derived.Test.YtljhflkcikpoiaaAbsM
import Derived.Test.YtljhflkcikpoiaaLaw
import Derived.Test.YtljhflkcikpoiaaTrip
namespace Go.Proofs.Ytljhflkcikpoiaa
open Go.ChangeShapes Go.WideShapes Go.ChangeAt Go.RowKit Go.By

theorem own_none : ownKnob Try.prog.godebug = none := by kernel_rfl
theorem laidOut : laidOutB Try.prog = true := by kernel_rfl

theorem run_begun (w : World) : Calls Try.prog 7 #[] w fun e w' => e = .returned (.bool true) ∧ Below w.heap.size w w' := Go.Abs.begun_any w

set_option maxRecDepth 100000 in
theorem room_any (room : Nat) (hroom : room < 256) (p : Option Addr) (n cap : Nat) (w : World) (hnm : n ≤ maxLen) (T : Nat → Nat → Nat) (hT : ∀ i c, T i c < 256) (hp : ∀ i, i < n → ∃ lb lo, p = some ⟨lb, lo, none⟩ ∧ ∀ c, c < 3 → w.cell? ⟨lb, lo + i * 3 + c, none⟩ = some (.int .u8 (T i c : Nat))) :
    Calls Try.prog 5 #[.int .u8 room, .slice p n cap] w fun e w' => e = .returned (.bool true) ∧ Below w.heap.size w w' := by
  by_cases hn : n ≤ 30
  · exact room_walk run_begun room hroom p n cap w hn T hT hp
  · have hni : (30 : Int) < n := by omega
    have hd : decide ((30 : Int) < n) = true := by simp; omega
    clear hp hT
    go_enter Try.func5, Try.ntmps5
    go_wp2_with (go_at_call 7; refine (run_begun _).mono ?_; rintro e w1 ⟨rfl, hb1⟩; have HB1 := Lib.hid hb1; clear hb1)
    go_ret
    exact ⟨rfl, HB1.out⟩

set_option maxRecDepth 100000 in
theorem room_lifted (os : Os) (started : os.Started) (H : Type) (enc : TypeId × Value → H) :
    ReturnsInHanded {} Try.checked os 5 .any (Rows.diskRoomSpec.pre6 enc Try.prog Try.f5 Rows.diskRoomRow.domain false) (Rows.diskRoomSpec.post enc Try.prog Try.f5 false true false false) := by
  refine returnsInHanded_of_change (C := Try.checked) own_none started (by kernel_rfl) Try.func5
    (ChangeSpec.witness6 (enc := enc) (C := Try.checked) false ⟨#[], #[.int .u8 0, .slice none 0 0], []⟩ 8 (by kernel_rfl) (by kernel_rfl) (by kernel_rfl) (by kernel_rfl)) ?_
  intro W base args ds gs before hval0 hW hcnd _
  have hval : ∀ (j : Nat) t v, Try.f5.params[j]? = some t → args[j]? = some v → Value.okWide Try.prog W .any base t v := hval0
  have hW' := hW
  obtain ⟨p, q, hA0, hV, rfl, hfz, hnd⟩ := hW
  have hA : DataW.TrodAll enc Try.prog W 0 (fun _ => true) true Try.f5.params.toList args.toList ds p := hA0
  have hp : Try.f5.params = #[5, 44] := by kernel_rfl
  rw [hp] at hA hval
  obtain ⟨v0, v1, d0, d1, p0, p1, rfl, rfl, rfl, h0, h1⟩ := trodAll_two hA
  obtain ⟨rfl, rfl⟩ := trodVars_none hV
  obtain ⟨a, rfl, _, _, wa⟩ := open_int (P := Try.prog) (t := 5) (k := .u8) (by kernel_rfl) (hval 0 5 v0 rfl rfl) h0
  obtain ⟨room, rfl, hroom⟩ := u8_of_wf wa
  obtain ⟨pp, n, cap, T, rfl, hn1, hn2, hT, hc⟩ := open_triples (e := 46) (q := 5) (by kernel_rfl) (by kernel_rfl) (by kernel_rfl) (by kernel_rfl) (by kernel_rfl) (hval 1 44 v1 rfl rfl) h1
  refine (room_any room hroom pp n cap W (Nat.le_trans hn1 hn2) T hT hc).mono fun e W' ⟨he, hb⟩ => ?_
  subst he
  exact ⟨_, rfl, law_post (tb := 4) laidOut (by rw [hp]; intro t ht; simp at ht; rcases ht with rfl | rfl <;> exact ⟨by kernel_rfl, by decide +kernel⟩) rfl rfl (by kernel_rfl) (by kernel_rfl) hW' hb⟩

theorem diskRoom_holds : Rows.DiskRoomSaid :=
  OpenClaim.holds_of_wide 5 Try.f5 rfl rfl rfl rfl rfl rfl rfl ⟨rfl, rfl, rfl, rfl, rfl⟩ rfl rfl rfl rfl rfl (by kernel_rfl) Try.func5 (by kernel_rfl)
    (of_decide_eq_true (by kernel_rfl)) (by unfold Func.isWrapper; rw [if_neg (by decide +kernel)]; exact ⟨rfl, rfl⟩)
    (fun os started H enc _ => room_lifted os started H enc)
end Go.Proofs.Ytljhflkcikpoiaa
