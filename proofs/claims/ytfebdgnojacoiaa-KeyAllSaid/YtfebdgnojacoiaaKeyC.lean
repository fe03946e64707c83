/- Keys: a row of parts. -/
import Derived.Test.YtfebdgnojacoiaaKeyB
namespace Go.Proofs.Ytfebdgnojacoiaa
open Go Go.RowKit Go.By

/-- A part's method: what it lays, or that it may not be. -/
structure Part (f : FuncId) (c : Nat) (s : ByteArray) (n : Int) (m : Option (List Nat)) : Prop where
  enter : ∀ args w, (callFunc f args).run Try.prog w = .ok (.enter f args) w
  lays : ∀ (v : Value) (l : List Nat) (base : Nat) (w : World), w.ownsRow base 5 1 v l.length (cellsOf l) → l.length ≤ 1000 → base ≤ w.heap.size →
    Calls Try.prog f #[.agg #[.int .u8 c, .string s, .int .i64 n], v] w fun e w' => match m with
      | some m => Lays w base (l ++ m) e w'
      | none => Lacks w base e w'

/-- What comes out. -/
def keyOut : List (Option (List Nat)) → List Nat → List Nat
  | [], l => l
  | some m :: r, l => keyOut r (l ++ m)
  | none :: _, _ => []

def KeyRel (w0 : World) (c : Nat) (s : ByteArray) (n : Int) (ms : List (Option (List Nat))) (x i : Value) (w : World) : Prop :=
  ∃ (k : Nat) (l : List Nat), k ≤ ms.length ∧ i = .int .i64 k ∧ l.length ≤ 100 * k ∧ keyOut ms [] = keyOut (ms.drop k) l ∧ w.ownsRow (w0.heap.size + 1) 5 1 x l.length (cellsOf l) ∧ Below w0.heap.size w0 w ∧ BoxAt w w0.heap.size c s n

set_option maxRecDepth 100000 in
theorem key_any (c : Nat) (s : ByteArray) (n : Int) (fs : List FuncId) (ms : List (Option (List Nat))) (hlen : fs.length = ms.length) (h10 : ms.length ≤ 5) (hms : ∀ (i : Nat) m, ms[i]? = some (some m) → m.length ≤ 100)
    (hP : ∀ (i : Nat) f m, fs[i]? = some f → ms[i]? = some m → Part f c s n m) (rb : Nat) (w : World) (hrow : ∀ (i : Nat) f, fs[i]? = some f → w.cell? ⟨rb, i, none⟩ = some (.func (.func f) #[] #[])) (hrb : rb < w.heap.size) :
    Calls Try.prog 31 #[.agg #[.int .u8 c, .string s, .int .i64 n], .slice (some ⟨rb, 0, none⟩) fs.length fs.length] w fun e w' => ∃ v', e = .returned v' ∧ OwnM w' w.heap.size v' (keyOut ms []) ∧ Below w.heap.size w w' := by
  have h0 : KeyRel w c s n ms (.slice none 0 0) (.int .i64 (0 : Nat)) (w.alloc (.cells #[.int .u8 c, .string s, .int .i64 n] 40)) :=
    ⟨0, [], by omega, rfl, by simp, by simp, World.ownsRow_nil _ _ _ _, (Below.refl _ _).alloc (Nat.le_refl _) _, heap_alloc_new w _⟩
  have H0 := Lib.hid h0; have HP := Lib.hid hP; have HMS := Lib.hid hms; have HROW := Lib.hid hrow; have HLEN := Lib.hid hlen
  obtain ⟨N, hN⟩ : ∃ N, N = fs.length := ⟨_, rfl⟩
  rw [← hN]
  have hN5 : (N : Int) ≤ 5 := by omega
  have HN := Lib.hid hN
  clear h0 hP hms hrow hlen h10 hN
  go_enter Try.func31, Try.ntmps31
  go_wp2
  go_loopw [5, 12] (fun x i wr => KeyRel w c s n ms x i wr) (fun _ i _ => 6 - (intOf i).toNat)
  case atStart => exact H0.out
  case round =>
    clear H0
    obtain ⟨k, l, hk, rfl, hl, hout, hown, hbel, hbox⟩ := hrel
    have hsz := hbel.size
    obtain ⟨p, cap, rfl⟩ := shape_of hown
    by_cases hlt : k < N
    · have hkf : k < fs.length := by rw [← HN.out]; exact hlt
      have hkm : k < ms.length := by rw [← HLEN.out]; exact hkf
      obtain ⟨f, hf⟩ : ∃ f, fs[k]? = some f := ⟨_, List.getElem?_eq_getElem hkf⟩
      obtain ⟨m, hm⟩ : ∃ m, ms[k]? = some m := ⟨_, List.getElem?_eq_getElem hkm⟩
      have hpart := HP.out k f m hf hm
      have hent := hpart.enter
      have hcell := (hbel.cell (p := ⟨rb, k, none⟩) hrb).trans (HROW.out k f hf)
      have hc0 : wr.cell? ⟨w.heap.size, 0, none⟩ = some (.int .u8 c) := cells_of hbox 0
      have hc1 : wr.cell? ⟨w.heap.size, 1, none⟩ = some (.string s) := cells_of hbox 1
      have hc2 : wr.cell? ⟨w.heap.size, 2, none⟩ = some (.int .i64 n) := cells_of hbox 2
      have HO := Lib.hid hown; have HB := Lib.hid hbel; have HX := Lib.hid hbox; have HOUT := Lib.hid hout
      have HF := Lib.hid hf; have HM := Lib.hid hm; have HPART := Lib.hid hpart
      have hsl : (l.length : Int) ≤ 100 * k := by omega
      have hdrop : Hid (ms.drop k = m :: ms.drop (k + 1)) := by
        unfold Hid
        rw [List.drop_eq_getElem_cons hkm]
        rw [List.getElem?_eq_getElem hkm] at hm
        rw [Option.some.inj hm]
      clear hown hbel hbox hout hf hm hpart hkf hkm
      go_wp2_with fail
      have hbs : w.heap.size + 1 ≤ wr.heap.size := (Array.getElem?_eq_some_iff.1 HX.out).1
      refine (HPART.out.lays _ l (w.heap.size + 1) wr HO.out (by omega) hbs).mono ?_
      cases m with
      | none =>
        rintro e w2 ⟨rfl, hb2⟩
        have HB2 := Lib.hid (HB.out.trans (hb2.mono (Nat.le_succ _)))
        have E : Hid (keyOut ms [] = []) := by
          unfold Hid
          rw [HOUT.out, hdrop.out]
          rfl
        clear hb2
        go_wp2
        go_ret
        exact ⟨_, rfl, by rw [E.out]; exact .inl ⟨rfl, rfl⟩, HB2.out⟩
      | some m =>
        rintro e w2 ⟨v2, rfl, ho2, hb2⟩
        have hm100 := HMS.out k m HM.out
        have hx2 : BoxAt w2 w.heap.size c s n := (hb2.block _ (Nat.lt_succ_self _)).trans HX.out
        have hrel2 : KeyRel w c s n ms v2 (.int .i64 (k + 1 : Nat)) w2 :=
          ⟨k + 1, l ++ m, by have := HLEN.out; have := HN.out; omega, rfl, by rw [List.length_append]; omega, by rw [HOUT.out, hdrop.out]; rfl, ho2, HB.out.trans (hb2.mono (Nat.le_succ _)), hx2⟩
        have HR := Lib.hid hrel2
        clear ho2 hb2 hx2 hrel2
        go_wp2
        go_roundw
        case rel => exact HR.out
        case measure => simp [intOf]; omega
    · obtain rfl : k = N := by have := HLEN.out; have := HN.out; omega
      have E : Hid (keyOut ms [] = l) := by
        unfold Hid
        rw [hout, List.drop_of_length_le (by have := HLEN.out; have := HN.out; omega)]
        rfl
      have HO := Lib.hid hown; have HB := Lib.hid hbel
      clear hown hbel hbox hout
      go_wp2
      go_ret
      exact ⟨_, rfl, by rw [E.out]; exact OwnM.of_owns (owns_base HO.out (Nat.le_succ _)), HB.out⟩

/-- The parts there are. -/
theorem part_letter (c : Nat) (hc : c < 256) (s : ByteArray) (n : Int) : Part 40 c s n (some [c]) :=
  ⟨fun args w => by kernel_rfl, fun v l base w hv hl hb => putLetter_any c hc s n v l base w hv hl hb⟩
theorem part_nought (c : Nat) (s : ByteArray) (n : Int) : Part 39 c s n (some [0]) :=
  ⟨fun args w => by kernel_rfl, fun v l base w hv hl hb => putNought_any c s n v l base w hv hl hb⟩
def namePart (s : ByteArray) : Option (List Nat) := if mayNm (natsOf s) = true then some (natsOf s) else none
theorem part_name (c : Nat) (s : ByteArray) (n : Int) (hs : s.size ≤ maxLen) : Part 38 c s n (namePart s) :=
  ⟨fun args w => by kernel_rfl, fun v l base w hv hl hb => (putName_any c s n v l base w hv hl hb hs).mono fun e w' h => by
    unfold namePart
    cases hm : mayNm (natsOf s) with
    | false => rw [hm] at h; exact h
    | true => rw [hm] at h; exact h⟩
def numPart (n : Int) : Option (List Nat) := if 0 ≤ n then some (highOf n.toNat 8) else none
set_option maxRecDepth 100000 in
theorem putNumber_less (c : Nat) (s : ByteArray) (n : Int) (hn : n < 0) (v : Value) (base : Nat) (w : World) (hb : base ≤ w.heap.size) :
    Calls Try.prog 32 #[.agg #[.int .u8 c, .string s, .int .i64 n], v] w (Lacks w base) := by
  have HB := Lib.hid ((Below.refl base w).alloc hb (.cells #[.int .u8 c, .string s, .int .i64 n] 40))
  go_enter Try.func32, Try.ntmps32
  go_wp2
  go_ret2
  exact ⟨rfl, HB.out⟩
theorem part_number (c : Nat) (s : ByteArray) (n : Int) (hn : n < 9223372036854775808) : Part 32 c s n (numPart n) :=
  ⟨fun args w => by kernel_rfl, fun v l base w hv hl hb => by
    unfold numPart
    by_cases h : 0 ≤ n
    · rw [if_pos h]
      obtain ⟨k, rfl⟩ : ∃ k : Nat, n = k := ⟨n.toNat, by omega⟩
      exact putNumber_any c s k (by omega) v l base w hv hl hb
    · rw [if_neg h]
      exact putNumber_less c s n (by omega) v base w hb⟩
end Go.Proofs.Ytfebdgnojacoiaa

