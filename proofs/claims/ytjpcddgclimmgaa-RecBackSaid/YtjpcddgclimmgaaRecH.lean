/- rec: what Put and Take tell, in one piece; rec has begun. -/
import Derived.Test.YtjpcddgclimmgaaRecG
import Derived.Test.YtjpcddgclimmgaaRecM
import Derived.Test.YtjpcddgclimmgaaKept
import Derived.Test.YtjpcddgclimmgaaLaw
import Derived.Lib.SlBytesConst
namespace Go.Proofs.Ytjpcddgclimmgaa
open Go Go.RowKit Go.By

def putErr (l : List Nat) : Nat := if l.length ≤ 4096 then 0 else 4
def putBytes (k : Nat) (l : List Nat) : List Nat := if l.length ≤ 4096 then recOf k l else []
def tkErr (l : List Nat) : Nat := if isRec l then 0 else 2
def tkKind (l : List Nat) : Nat := if isRec l then atB l 4 else 0
def tkLen (l : List Nat) : Nat := if isRec l then 9 + bodyLen l else 0
def tkBody (l : List Nat) : List Nat := if isRec l then pc l 5 (bodyLen l) else []

theorem tk_rec {k : Nat} {b : List Nat} (m : List Nat) (hk : k < 256) (hb : b.length ≤ 4096) (hs : ∀ c ∈ b, c < 256) :
    tkErr (recOf k b ++ m) = 0 ∧ tkKind (recOf k b ++ m) = k ∧ tkLen (recOf k b ++ m) = 9 + b.length ∧ tkBody (recOf k b ++ m) = b := by
  have h := isRec_rec (m := m) hk hb hs
  unfold tkErr tkKind tkLen tkBody
  rw [if_pos h, if_pos h, if_pos h, if_pos h, bodyLen_rec k b m hb, kind_rec, body_rec]
  exact ⟨rfl, rfl, rfl, rfl⟩
theorem tk_none {l : List Nat} (h : isRec l = false) : tkErr l = 2 ∧ tkKind l = 0 ∧ tkLen l = 0 ∧ tkBody l = [] := by
  unfold tkErr tkKind tkLen tkBody
  rw [h]; exact ⟨rfl, rfl, rfl, rfl⟩

theorem shape_of {w : World} {base : Nat} {v : Value} {l : List Nat} (h : w.ownsRow base 5 1 v l.length (cellsOf l)) : ∃ p c, v = .slice p l.length c := by
  rcases h.2 with ⟨h, h2⟩ | ⟨g, c, _, h, _⟩
  · exact ⟨none, 0, by rw [h]; congr 1; omega⟩
  · exact ⟨_, c, by rw [h]⟩

/-- What Put tells, whatever the body. -/
theorem put_all (k : Nat) (v : Value) (l : List Nat) (w : World) (hk : k < 256) (hv : Bytes w v l) :
    Calls Try.prog 8 #[.int .u8 k, v] w fun e w' => ∃ p c, e = .returned (.tuple #[.slice p (putBytes k l).length c, .int .i64 (putErr l : Nat)]) ∧ Bytes w' (.slice p (putBytes k l).length c) (putBytes k l) ∧ Below w.heap.size w w' := by
  by_cases hl : l.length ≤ 4096
  · refine (put_any k v l w hk hv hl).mono ?_
    rintro e w' ⟨v', rfl, ho, hb⟩
    have e1 : putBytes k l = recOf k l := if_pos hl
    have e2 : putErr l = 0 := if_pos hl
    rw [e1, e2]
    obtain ⟨p, c, rfl⟩ := shape_of ho
    exact ⟨p, c, rfl, Bytes.of_owns ho (recOf_small hk hv.small) (by rw [recOf_length]; unfold maxLen; omega), hb⟩
  · refine (put_long k v l w hv (by omega)).mono ?_
    rintro e w' ⟨rfl, rfl⟩
    have e1 : putBytes k l = [] := if_neg hl
    have e2 : putErr l = 4 := if_neg hl
    rw [e1, e2]
    exact ⟨none, 0, rfl, Bytes.nil _, Below.refl _ _⟩
theorem refPut_all (k : Nat) (v : Value) (l : List Nat) (w : World) (hk : k < 256) (hv : Bytes w v l) :
    Calls Try.prog 9 #[.int .u8 k, v] w fun e w' => ∃ p c, e = .returned (.tuple #[.slice p (putBytes k l).length c, .int .i64 (putErr l : Nat)]) ∧ Bytes w' (.slice p (putBytes k l).length c) (putBytes k l) ∧ Below w.heap.size w w' := by
  by_cases hl : l.length ≤ 4096
  · refine (refPut_any k v l w hk hv hl).mono ?_
    rintro e w' ⟨v', rfl, ho, hb⟩
    have e1 : putBytes k l = recOf k l := if_pos hl
    have e2 : putErr l = 0 := if_pos hl
    rw [e1, e2]
    obtain ⟨p, c, rfl⟩ := shape_of ho
    exact ⟨p, c, rfl, Bytes.of_owns ho (recOf_small hk hv.small) (by rw [recOf_length]; unfold maxLen; omega), hb⟩
  · refine (refPut_long k v l w hv (by omega)).mono ?_
    rintro e w' ⟨rfl, rfl⟩
    have e1 : putBytes k l = [] := if_neg hl
    have e2 : putErr l = 4 := if_neg hl
    rw [e1, e2]
    exact ⟨none, 0, rfl, Bytes.nil _, Below.refl _ _⟩

/-- What Take tells, in one piece. -/
def TookAll (B : Nat) (w0 : World) (l : List Nat) (e : Ending) (w' : World) : Prop :=
  ∃ p c, e = .returned (.tuple #[.int .u8 (tkKind l : Nat), .slice p (tkBody l).length c, .int .i64 (tkLen l : Nat), .int .i64 (tkErr l : Nat)]) ∧ Bytes w' (.slice p (tkBody l).length c) (tkBody l) ∧ Below B w0 w'
theorem Took.all {B : Nat} {w0 w' : World} {l : List Nat} {e : Ending} (h : Took B w0 l e w') (hs : ∀ c ∈ l, c < 256) (hl : l.length ≤ 17592186044416) : TookAll B w0 l e w' := by
  obtain ⟨v, hb, h⟩ := h
  cases hr : isRec l
  · rw [hr] at h
    obtain ⟨e1, e2, e3, e4⟩ := tk_none hr
    refine ⟨none, 0, ?_, ?_, hb⟩
    · rw [e1, e2, e3, e4]; exact h
    · rw [e4]; exact Bytes.nil _
  · rw [if_pos hr] at h
    have e1 : tkErr l = 0 := if_pos hr
    have e2 : tkKind l = atB l 4 := if_pos hr
    have e3 : tkLen l = 9 + bodyLen l := if_pos hr
    have e4 : tkBody l = pc l 5 (bodyLen l) := if_pos hr
    obtain ⟨p, c, rfl⟩ := shape_of h.2
    refine ⟨p, c, ?_, ?_, hb⟩
    · rw [e1, e2, e3, e4]; exact h.1
    · rw [e4]; exact Bytes.of_owns h.2 (pc_small hs) (by simp only [pc, List.length_take, List.length_drop]; unfold maxLen; omega)
theorem take_all (sv : Value) (l : List Nat) (w : World) (hsv : Bytes w sv l) (hl : l.length ≤ 17592186044416) :
    Calls Try.prog 10 #[sv] w fun e w' => TookAll w.heap.size w l e w' :=
  (take_any sv l w hsv hl).mono fun _ _ h => h.all hsv.small hl
theorem refTake_all (sv : Value) (l : List Nat) (w : World) (hsv : Bytes w sv l) (hl : l.length ≤ 17592186044416) :
    Calls Try.prog 11 #[sv] w fun e w' => TookAll w.heap.size w l e w' :=
  (refTake_any sv l w hsv hl).mono fun _ _ h => h.all hsv.small hl

/-- A record is taken, whatever stands behind. -/
theorem take_rec (k : Nat) (b m : List Nat) (sv : Value) (w : World) (hk : k < 256) (hb : b.length ≤ 4096) (hm : m.length ≤ 1048576) (hs : ∀ c ∈ b, c < 256) (hsv : Bytes w sv (recOf k b ++ m)) :
    Calls Try.prog 10 #[sv] w fun e w' => ∃ p c, e = .returned (.tuple #[.int .u8 (k : Nat), .slice p b.length c, .int .i64 (9 + b.length : Nat), .int .i64 0]) ∧ Bytes w' (.slice p b.length c) b ∧ Below w.heap.size w w' := by
  refine (take_all sv _ w hsv (by rw [List.length_append, recOf_length]; omega)).mono ?_
  rintro e w' ⟨p, c, he, hbb, hb'⟩
  obtain ⟨e1, e2, e3, e4⟩ := tk_rec m hk hb hs
  rw [e1, e2, e3, e4] at he
  rw [e4] at hbb
  exact ⟨p, c, he, hbb, hb'⟩
theorem take_none (l : List Nat) (sv : Value) (w : World) (hl : l.length ≤ 17592186044416) (hr : isRec l = false) (hsv : Bytes w sv l) :
    Calls Try.prog 10 #[sv] w fun e w' => e = .returned (.tuple #[.int .u8 0, .slice none 0 0, .int .i64 0, .int .i64 2]) ∧ Below w.heap.size w w' := by
  refine (take_any sv l w hsv hl).mono ?_
  rintro e w' ⟨v, hb, h⟩
  rw [hr] at h
  exact ⟨h, hb⟩

theorem bytes_below {w w' : World} {v : Value} {l : List Nat} {B : Nat} (h : Bytes w v l) (hb : Below B w w') (hB : w.heap.size ≤ B) : Bytes w' v l := h.below (hb.mono hB)

/-- The same, as numbers of one's own. -/
theorem put_lit (K : Int) (k : Nat) (v : Value) (l : List Nat) (n : Nat) (w : World) (hK : K = k) (hn : 9 + l.length = n) (hk : k < 256) (hv : Bytes w v l) (hl : l.length ≤ 4096) :
    Calls Try.prog 8 #[.int .u8 K, v] w fun e w' => ∃ p c, e = .returned (.tuple #[.slice p n c, .int .i64 0]) ∧ Bytes w' (.slice p n c) (recOf k l) ∧ Below w.heap.size w w' := by
  subst hK hn
  refine (put_any k v l w hk hv hl).mono ?_
  rintro e w' ⟨v', rfl, ho, hb⟩
  obtain ⟨p, c, rfl⟩ := shape_of ho
  have e1 := recOf_length k l
  have h2 := Bytes.of_owns ho (recOf_small hk hv.small) (by rw [recOf_length]; unfold maxLen; omega)
  rw [e1] at h2 ⊢
  exact ⟨p, c, rfl, h2, hb⟩
theorem take_lit (K N : Int) (k n : Nat) (b m l : List Nat) (sv : Value) (w : World) (hK : K = k) (hn : b.length = n) (hN : N = (9 + b.length : Nat)) (hl : l = recOf k b ++ m) (hk : k < 256) (hb : b.length ≤ 4096) (hm : m.length ≤ 1048576) (hs : ∀ c ∈ b, c < 256) (hsv : Bytes w sv l) :
    Calls Try.prog 10 #[sv] w fun e w' => ∃ p c, e = .returned (.tuple #[.int .u8 K, .slice p n c, .int .i64 N, .int .i64 0]) ∧ Bytes w' (.slice p n c) b ∧ Below w.heap.size w w' := by
  subst hK hN hn hl
  exact take_rec k b m sv w hk hb hm hs hsv

theorem isRec_nil : isRec [] = false := isRec_short (by decide)

set_option maxRecDepth 100000 in
theorem begun_any (w : World) : Calls Try.prog 6 #[] w fun e w' => e = .returned (.bool true) ∧ Below w.heap.size w w' := by
  have hcv := fun (w : World) (C : Array Value) (n c : Nat) => Lib.run_convert_bytes_const (P := Try.prog) w 22 5 C n c byT.slice byT.elem
  go_enter Try.func6, Try.ntmps6
  go_wp2_with fail
  refine (put_lit 1 1 (.slice (some ⟨w.heap.size, 0, none⟩) 1 1) [120] 10 _ rfl rfl (by omega) (Bytes.lit _ rfl rfl (by decide) (by decide)) (by decide)).mono ?_
  rintro e w1 ⟨p1, c1, rfl, ho1, hb1⟩
  have HO1 := Lib.hid ho1
  have HB1 : Hid (Below w.heap.size w w1) := ((Below.refl _ _).alloc (Nat.le_refl _) _).trans (hb1.mono (by simp))
  have hz1 := HB1.out.size
  clear ho1 hb1 hcv
  go_wp2_with (at_builtin; first
    | (refine wpList_append_bytes rfl (.tmp 18) (.tmp 19) byT rfl w1.heap.size (.slice (some ⟨w1.heap.size, 0, none⟩) 0 0) 0 [] rfl (World.ownsRow_made w1 #[] 0 (Nat.le_refl _) (by decide) rfl) (.slice p1 10 c1) (recOf 1 [120]) rfl (HO1.out.below ((Below.refl _ _).alloc (Nat.le_refl _) _)) (by decide) (by simp) ?_; intro v2 w2 hown2 hgrow2 _
       have HO2 := Lib.hid hown2; have HG2 := Lib.hid hgrow2; clear hown2 hgrow2)
    | (refine wpList_append_bytes rfl (.tmp 20) (.tmp 21) byT rfl w1.heap.size v2 (0 + (recOf 1 [120]).length) ([] ++ cellsOf (recOf 1 [120])) rfl (HO2.out.alloc _) (.slice (some ⟨w2.heap.size, 0, none⟩) 1 1) [9] rfl (Bytes.one rfl (by omega)) (by decide) (by have := HG2.out.size; simp at this; simp; omega) ?_; intro v3 w3 hown3 hgrow3 _))
  have hb2 : Below w.heap.size w w2 := (HB1.out.alloc hz1 _).grown HG2.out (by simp; omega) (by simp [Value.ownBlock]; omega)
  have hb3 : Below w.heap.size w w3 := (hb2.alloc hb2.size _).grown hgrow3 (by have := hb2.size; simp; omega) (fun j hj => by have := (HO2.out.lt j hj).1; omega)
  have ho3 : w3.ownsRow w1.heap.size 5 1 v3 (recOf 1 [120] ++ [9]).length (cellsOf (recOf 1 [120] ++ [9])) := by
    rw [List.length_append, cellsOf_append]
    rw [Nat.zero_add, List.nil_append] at hown3
    exact hown3
  obtain ⟨p3, c3, rfl⟩ := shape_of ho3
  have hy3 := Bytes.of_owns ho3 (by decide +kernel) (by decide +kernel)
  have HY3 := Lib.hid hy3
  have HB3 := Lib.hid hb3
  clear hb2 hb3 ho3 hy3 hown3 hgrow3 HO1 HB1 HO2 HG2 hz1
  go_wp2_with fail
  refine (take_lit 1 10 1 1 [120] [9] _ _ w3 rfl rfl rfl rfl (by omega) (by decide) (by decide) (by decide) HY3.out).mono ?_
  rintro e w4 ⟨p4, c4, rfl, hy4, hb4⟩
  have HY4 := Lib.hid hy4
  have HB4 : Hid (Below w.heap.size w w4) := HB3.out.trans (hb4.mono HB3.out.size)
  clear hy4 hb4
  go_wp2_with fail
  refine (take_none [] (.slice none 0 0) w4 (by decide) isRec_nil (Bytes.nil _)).mono ?_
  rintro e w5 ⟨rfl, hb5⟩
  have HB5 : Hid (Below w.heap.size w w5) := HB4.out.trans (hb5.mono HB4.out.size)
  have c1 := (HY4.out.below hb5).toString byT (P := Try.prog) (d := 9) (by kernel_rfl)
  rw [show strOf [120] = ⟨#[120]⟩ from rfl] at c1
  clear hb5
  go_wp2
  go_ret
  exact ⟨rfl, HB5.out⟩

theorem own_none : ownKnob Try.prog.godebug = none := by kernel_rfl
theorem laidOut : laidOutB Try.prog = true := by kernel_rfl
theorem Lent.below {B : Nat} {w w' : World} {v : Value} {l : List Nat} (h : Lent B w v l) (hb : Below w.heap.size w w') : Lent B w' v l := by
  obtain ⟨g, cap, rfl, hown⟩ := h
  exact ⟨g, cap, rfl, hown.kept (row := none) ⟨hb.os, hb.tape, hb.output, hb.size, fun k hk _ => hb.block k hk⟩ (.inr (by simp [Value.ownBlock]))⟩
end Go.Proofs.Ytjpcddgclimmgaa
