/- Rows of items in a program: so many are kept. -/
import Derived.Test.YtnbnnonjbjbbkaaLfA
import Derived.Test.YtnbnnonjbjbbkaaRowS
namespace Go.Proofs.Ytnbnnonjbjbbkaa
open Go Go.RowKit Go.By

theorem itT : RowT Try.prog 33 2 := ⟨by kernel_rfl, fun w => by kernel_rfl⟩
/-- A row is being made. -/
def Rw (w0 : World) (r : Nat) (x : List NIt × List NIt) (w : World) : Prop := ∃ pl cl, RowAt KItem w0 pl cl x.1 ∧ Made w0 r (.slice pl x.1.length cl) x.2 w
def RwIs (w0 : World) (r : Nat) (x : List NIt × List NIt) (w : World) (e : Ending) (w' : World) : Prop := e = .returned (.tuple #[]) ∧ Rw w0 r x w' ∧ KeptT r w w'
theorem Made.leave {w0 w : World} {r : Nat} {lv : Value} {its : List NIt} (h : Made w0 r lv its w) (hr : w0.heap.size ≤ r) (v : Value) : Made w0 r v its (w.setCell ⟨r, 0, none⟩ v) := by
  obtain ⟨mv, h1, h2, h3⟩ := h
  exact ⟨mv, set_heap h1 0 v, h2.onlyT h1 ty_lrow (Only.set r 0 w v), h3.setCell hr v⟩
theorem Made.more {w0 w w' : World} {r : Nat} {lv : Value} {its : List NIt} (h : Made w0 r lv its w) (hb : Below w.heap.size w w') : Made w0 r lv its w' := by
  obtain ⟨mv, h1, h2, h3⟩ := h
  exact ⟨mv, h1.below hb, h2.below' hb, h3.trans (hb.mono h3.size)⟩
def AllShort (l : List NIt) : Prop := ∀ i ∈ l, ShortIt i
def KeepRel (w0 : World) (r : Nat) (lv : Value) (its made : List NIt) (n : Nat) (w : World) (i : Value) (w' : World) : Prop :=
  ∃ k : Nat, k ≤ n ∧ i = .int .i64 k ∧ Made w0 r lv (made ++ its.take k) w' ∧ KeptT r w w'

set_option maxRecDepth 100000 in
set_option maxHeartbeats 1000000 in
theorem keep_any (w0 : World) (r : Nat) (x : List NIt × List NIt) (n : Nat) (w : World) (h : Rw w0 r x w) (hr : w0.heap.size ≤ r) (hn : n ≤ x.1.length) (hs : AllShort x.1) (hm : x.2.length + x.1.length ≤ 1000000) :
    Calls Try.prog 15 #[.pointer (some ⟨r, 0, none⟩), .int .i64 n] w (RwIs w0 r (x.1.drop n, x.2 ++ x.1.take n) w) := by
  obtain ⟨left, made⟩ := x
  obtain ⟨pl, cl, h1, h2⟩ := h
  dsimp only at h1 h2 hn hs hm ⊢
  obtain ⟨hrun1, ht1⟩ := h1.upto itT n n rfl hn
  obtain ⟨q, c, hrun2, ht2⟩ := h1.from_ itT n n rfl hn
  have hc0 : w.cell? ⟨r, 0, none⟩ = some (.slice pl left.length cl) := by
    obtain ⟨mv, g1, _⟩ := h2
    exact cells_of g1 0
  have hfin : Hid (∀ w', Made w0 r (.slice pl left.length cl) (made ++ left.take n) w' → KeptT r w w' → RwIs w0 r (left.drop n, made ++ left.take n) w (.returned (.tuple #[])) (w'.setCell ⟨r, 0, none⟩ (.slice q (left.drop n).length c))) := fun w' hm hk => ⟨rfl, ⟨q, c, ht2, hm.leave hr _⟩, hk.trans (KeptT.set r 0 w' _)⟩
  have hadd : Hid (∀ k (hk : k < left.length) (a b : Value) (W : World), Made w0 r (.slice pl left.length cl) (made ++ left.take k) W → Bytes w0 a left[k].k → Bytes w0 b left[k].v → Calls Try.prog 22 #[.pointer (some ⟨r, 0, none⟩), a, b] W (MadeIs w0 r (.slice pl left.length cl) (made ++ left.take (k + 1)) W)) := fun k hk a b W hW ha hb => by
    have := add_any w0 r (.slice pl left.length cl) (made ++ left.take k) left[k] a b W hW hr ha hb (hs _ (List.getElem_mem hk)) (by rw [List.length_append, List.length_take]; omega)
    rwa [List.append_assoc, ← List.take_succ_eq_append_getElem hk] at this
  have HRW : Hid (∀ k (lb lo : Nat), pl = some ⟨lb, lo, none⟩ → ∀ (hk : k < left.length) W made', Made w0 r (.slice pl left.length cl) made' W → ∃ cs, CellsAt W lb (lo + k * 2) cs ∧ KItem.is w0 cs left[k]) := fun k lb lo hp hk W made' hW => by
    obtain ⟨lb', lo', cs, e1, e2, e3⟩ := h1.at_ k hk
    rw [hp] at e1
    obtain ⟨rfl, rfl⟩ : lb = lb' ∧ lo = lo' := by simpa using e1
    obtain ⟨_, _, _, g⟩ := hW
    exact ⟨cs, e2.below g, e3⟩
  have HP : Hid (0 < left.length → ∃ lb lo, pl = some ⟨lb, lo, none⟩) := fun h0 => by
    obtain ⟨lb, lo, e, _⟩ := h1.some h0
    exact ⟨lb, lo, e⟩
  have hL : (left.length : Int) ≤ 1000000 := by omega
  have hl1 : (left.take n).length = n := by rw [List.length_take]; omega
  rw [hl1] at hrun1
  have H0 : Hid (KeepRel w0 r (.slice pl left.length cl) left made n w (.int .i64 (0 : Nat)) w) := ⟨0, by omega, rfl, by simpa using h2, KeptT.refl _ _⟩
  obtain ⟨NL, hNL⟩ : ∃ NL, NL = left.length := ⟨_, rfl⟩
  obtain ⟨ND, hND⟩ : ∃ ND, ND = (left.drop n).length := ⟨_, rfl⟩
  rw [← hNL] at hc0 hrun1 hrun2 hL hn
  rw [← hND] at hrun2 hfin
  have HNL := Lib.hid hNL; have HND := Lib.hid hND
  have HN := Lib.hid hn
  have hn9 : (n : Int) ≤ NL := by omega
  clear h1 h2 ht1 ht2 hr hn hs hm hl1 hNL hND
  go_enter Try.func15, Try.ntmps15
  go_wp2
  go_loopw [13] (fun i W => KeepRel w0 r (.slice pl left.length cl) left made n w i W) (fun i _ => n - (intOf i).toNat)
  case atStart => exact H0.out
  case round =>
    clear H0 hc0
    obtain ⟨k, hk, rfl, hmd, hkt⟩ := hrel
    have hc0 : wr.cell? ⟨r, 0, none⟩ = some (.slice pl NL cl) := by
      obtain ⟨mv, g1, _⟩ := hmd
      rw [← HNL.out] at g1
      exact cells_of g1 0
    have hf0 : wr.frozen? ⟨r, 0, none⟩ = false := by
      obtain ⟨mv, g1, _⟩ := hmd
      exact free_of g1 0
    by_cases hlt : k < n
    · have hkl : k < left.length := by have := HN.out; have := HNL.out; omega
      obtain ⟨lb, lo, hp⟩ := HP.out (by omega)
      obtain ⟨cs, hcs, a, b, rfl, ha, hb⟩ := HRW.out k lb lo hp hkl wr _ hmd
      obtain ⟨e0, e1⟩ := hcs.two
      have hmd' := hmd.more ((Below.refl wr.heap.size wr).alloc (Nat.le_refl _) (.cells #[a, b] 36))
      have HADD := Lib.hid (hadd.out k hkl a b _ hmd' ha hb)
      have HKT := Lib.hid (hkt.trans (KeptT.of_below ((Below.refl wr.heap.size wr).alloc (Nat.le_refl _) (.cells #[a, b] 36))))
      obtain ⟨qa, ca, rfl, -⟩ := ha.any
      obtain ⟨qb, cb, rfl, -⟩ := hb.any
      have HLT := Lib.hid hlt
      generalize left[k].k.length = l1 at *
      generalize left[k].v.length = l2 at *
      have HPL := Lib.hid hp
      subst hp
      clear hcs ha hb hmd hmd' hkt hfin hkl HPL hrun2
      go_wp2_with fail
      refine HADD.out.mono ?_
      rintro e w2 ⟨rfl, hm2, hk2⟩
      have HR : Hid (KeepRel w0 r (.slice (some ⟨lb, lo, none⟩) left.length cl) left made n w (.int .i64 (k + 1 : Nat)) w2) := ⟨k + 1, by have := HLT.out; omega, rfl, hm2, HKT.out.trans hk2⟩
      clear hm2 hk2
      go_wp2
      go_roundw
      case rel => exact HR.out
      case measure => simp [intOf]; have := HLT.out; omega
    · obtain rfl : k = n := by omega
      have HF := Lib.hid (hfin.out _ hmd hkt)
      clear hmd hkt hfin hadd
      go_wp2
      go_returns
      exact HF.out
end Go.Proofs.Ytnbnnonjbjbbkaa

