/- The small interpreter at this program: its functions, and the two of the library that are taken by what is known of them. -/
import Derived.Test.YtobhhedggppneaaAbsK
import Derived.Test.YtobhhedggppneaaIterB
import Derived.Test.YtobhhedggppneaaChecked
namespace Go.Abs
open Go.RowKit Go.Proofs Go.Maps

theorem Sim.beyond {σ : List (Nat × Nat)} {H : Heap} {W0 w w' : World} (h : Sim σ H W0 w) (hb : Below w.heap.size w w') : Sim σ H W0 w' where
  below := h.below.trans (hb.mono h.below.size)
  len := h.len
  here := fun b a n hσ => by have := h.here b a n hσ; have := hb.size; omega
  inj := h.inj
  obj := fun b o ho => by
    obtain ⟨a, n, ob, h1, h2, h3⟩ := h.obj b o ho
    exact ⟨a, n, ob, h1, (hb.block a (h.here b a n h1).2).trans h2, h3⟩

/-- maps.clone: a map of the same entries. -/
def aClone (args : List AV) (h : Heap) : Option (List (AV × Heap)) :=
  match args with
  | [.iface t (.map b)] => (aMap h b).bind fun q => aNew h (.map q.1 q.2) fun b => .iface t (.map b)
  | _ => none

theorem sound_clone {P : Program} {σ : List (Nat × Nat)} {W0 w : World} {H : Heap} {args : List AV} {vals : Array Value} {outs : List (AV × Heap)}
    (h : aClone args H = some outs) (hs : Sim σ H W0 w) (hr : RepL σ args vals.toList) : ValOK P σ W0 (Extern.MapsClone.clone vals) w outs := by
  unfold aClone at h
  split at h
  · rename_i t b
    obtain ⟨q, hq, h1⟩ := Option.bind_eq_some_iff.1 h
    obtain ⟨u, hl, hu⟩ := repL_one hr
    obtain rfl : vals = #[u] := Array.toList_inj.1 hl
    simp only [Rep] at hu
    obtain ⟨y, rfl, a, n, hσ, rfl⟩ := hu
    obtain ⟨f0, l, f1, f2⟩ := aMap_rep hq hs hσ
    have e : Extern.MapsClone.clone #[.iface t (.map (some a))] = (do
        let o ← getObj a
        match o with
        | .map entries clock => do let r ← newObj (.map entries clock); pure (.iface t (.map (some r)))
        | _ => stuck "maps.clone: a map expected" : Sem Value) := rfl
    refine valOK_new (n := 0) (v := .iface t (.map (some w.heap.size))) h1 hs (ob := .map l q.2) ⟨l, rfl, f2⟩ (by rw [e]; simp [Go.MapKept.run_getObj_map f1]) ?_
    intro σ' hσ'
    simp only [Rep]
    exact ⟨_, rfl, _, _, hσ', rfl⟩
  · cases h

/-- slices.Sorted at what maps.Keys handed back: the keys, sorted. -/
def aSorted (it : FuncId) (st : TypeId) (args : List AV) (h : Heap) : Option (List (AV × Heap)) :=
  match args with
  | [.func f [] [.ptr a 0]] => need (Nat.beq f it) ((aCells h a 0 1).bind fun c => match c with
    | [.nilmap] => some [(.nilslice, h)]
    | [.map b] => (aMap h b).bind fun q => (keysOf q.1).bind fun ks => need (bornOK q.2 q.1 && apartB ks && shortB ks && Nat.ble q.1.length 1000000)
      (match sortBy ltL ks with
        | [] => some [(.nilslice, h)]
        | k :: l => need (risingB (k :: l)) (aNew h (.cells ((k :: l).map .str) true st false) fun b => .slice b 0 (k :: l).length none 1))
    | _ => none)
  | _ => none

theorem strs_rep {σ : List (Nat × Nat)} : ∀ kl : List (List UInt8), RepL σ ((kl.map nats).map .str) (kl.map encStr)
  | [] => by simp [RepL]
  | k :: kl => by simp only [List.map_cons, RepL]; exact ⟨_, _, rfl, by simp only [Rep]; exact ⟨_, rfl, rfl⟩, strs_rep kl⟩

theorem sound_sorted {σ : List (Nat × Nat)} {W0 w : World} {H : Heap} {args : List AV} {vals : Array Value} {outs : List (AV × Heap)}
    (h : aSorted 49 9 args H = some outs) (hs : Sim σ H W0 w) (hr : RepL σ args vals.toList) :
    Calls Try.prog 38 vals w fun e w' => ∃ out ∈ outs, ∃ σ' v, e = .returned v ∧ σ <+: σ' ∧ Sim σ' out.2 W0 w' ∧ Rep σ' out.1 v := by
  unfold aSorted at h
  split at h
  · rename_i f a
    obtain ⟨hf, h0⟩ := need_some h
    have hf' := Nat.eq_of_beq_eq_true hf
    subst hf'
    obtain ⟨c, hc, h1⟩ := Option.bind_eq_some_iff.1 h0
    clear h h0
    obtain ⟨u, hl, hu⟩ := repL_one hr
    obtain rfl : vals = #[u] := Array.toList_inj.1 hl
    simp only [Rep] at hu
    obtain ⟨fs, cs, rfl, hfs, hcs⟩ := hu
    simp only [RepL] at hfs
    obtain rfl : fs = #[] := Array.toList_inj.1 hfs
    obtain ⟨p, hcl, hp⟩ := repL_one hcs
    obtain rfl : cs = #[p] := Array.toList_inj.1 hcl
    simp only [Rep] at hp
    obtain ⟨ba, na, hσ, rfl⟩ := hp
    have hba := (hs.here a ba na hσ).2
    obtain ⟨hlc, l, e, fz, q1, q2, q3⟩ := aCells_rep hc hs hσ
    split at h1
    · cases h1
      obtain ⟨v, g1, g2⟩ := q3 0 _ rfl
      simp only [Rep] at g2
      have hcell : w.cell? ⟨ba, 0, none⟩ = some (.map none) := by simp only [World.cell?, q1]; simpa [g2] using g1
      refine (Try.sorted_keys_nil_at ba w hcell hba).mono ?_
      rintro e w' ⟨v', ss, rfl, rfl, _, hnil, hb⟩
      exact ⟨_, List.mem_singleton.2 rfl, σ, v', rfl, List.prefix_refl _, hs.beyond hb, by simp only [Rep]; exact hnil.2 rfl⟩
    · rename_i b
      obtain ⟨v, g1, g2⟩ := q3 0 _ rfl
      simp only [Rep] at g2
      obtain ⟨bm, nm, hσm, rfl⟩ := g2
      have hcell : w.cell? ⟨ba, 0, none⟩ = some (.map (some bm)) := by simp only [World.cell?, q1]; simpa using g1
      obtain ⟨q, hq, h2⟩ := Option.bind_eq_some_iff.1 h1
      obtain ⟨ks, hk, h3⟩ := Option.bind_eq_some_iff.1 h2
      obtain ⟨hb, h4⟩ := need_some h3
      clear h1 h2 h3
      simp only [Bool.and_eq_true, Nat.ble_eq] at hb
      obtain ⟨f0, m, f1, f2⟩ := aMap_rep hq hs hσm
      obtain ⟨kl, D0, k1, k2, k3, k4⟩ := own_of (P := Try.prog) (t := 9) (by kernel_rfl) f1 f2 hk hb.1.1.1 hb.1.1.2 hb.1.2 hb.2
      have hml : m.size ≤ 1000000 := by have := f2.length; simp only [Array.length_toList] at this; omega
      refine (Try.sorted_keys_at ba bm m.size D0 _ w k2 hcell hba (by rw [k4]; unfold maxLen; omega) (by rw [k4]; omega)).mono ?_
      rintro e w' ⟨v', ss, rfl, hperm, hrow, hnil, hbel⟩
      have hs' := hs.beyond hbel
      -- the sorted keys
      let sl := sortBy (fun x y => ltL (nats x) (nats y)) kl
      have hsl : sortBy ltL ks = sl.map nats := by rw [← k1]; exact sortBy_map nats ltL kl
      have hslp : ss.Perm sl := (hperm.trans k3).trans (sortBy_perm _ kl).symm
      split at h4
      · rename_i hnilk
        cases h4
        rw [hsl] at hnilk
        have : sl = [] := List.map_eq_nil_iff.1 hnilk
        rw [this] at hslp
        have hss := List.Perm.eq_nil hslp
        exact ⟨_, List.mem_singleton.2 rfl, σ, v', rfl, List.prefix_refl _, hs', by simp only [Rep]; exact hnil.2 hss⟩
      · rename_i k0 l0 hcons
        obtain ⟨hris, h5⟩ := need_some h4
        unfold aNew at h5
        obtain ⟨H', ha, h6⟩ := Option.bind_eq_some_iff.1 h5
        cases h6
        rw [hsl] at hcons
        have hpw : sl.Pairwise fun a b => Go.leB a b = true := risingB_pairwise sl (by rw [hcons]; exact hris)
        have hms : ss.mergeSort (fun x y => decide (x ≤ y)) = sl := by
          have e1 := mergeSort_of_perm hslp
          have e2 : sl.mergeSort Go.leB = sl := List.mergeSort_of_pairwise hpw
          exact e1.trans e2
        have hne : ss ≠ [] := by
          intro h0; rw [h0] at hslp
          have := List.Perm.nil_eq hslp
          rw [← this] at hcons; cases hcons
        rw [hms] at hrow
        rcases hrow.2 with ⟨r1, _⟩ | ⟨g, cap, cur, rfl, hbg, hg, hnc, hcm, hcs', htake⟩
        · exact absurd (hnil.1 r1) hne
        · have hsz : ss.length = (k0 :: l0).length := by rw [← hcons, List.length_map]; exact hslp.length_eq
          have hal := hs'.alias (n := cur.size) (ob := .cells cur 9) ha ?_ hg (Nat.le_trans hs.below.size hbg) ?_
          · refine ⟨_, List.mem_singleton.2 rfl, _, _, rfl, ⟨_, rfl⟩, hal.1, ?_⟩
            simp only [Rep]
            exact ⟨_, _, _, hal.2, by rw [hsz], by omega, by rw [← hsz]; exact hnc⟩
          · refine ⟨cur, rfl, rfl, ?_, fun h => by cases h⟩
            intro i x hi
            rw [← hcons] at hi
            obtain ⟨v, r1, r2⟩ := (strs_rep (σ := σ) sl).get i x hi
            refine ⟨v, ?_, r2⟩
            rw [← htake, List.getElem?_take] at r1
            split at r1
            · exact r1
            · cases r1
          · intro c x m' _ hm'
            have := (hs.here c g m' hm').2
            omega
    · cases h1
  · cases h

/-- What is known of the functions that are not followed. -/
def ext : CallF := fun f args h => cond (Nat.beq f 51) (aClone args h) (cond (Nat.beq f 38) (aSorted 49 9 args h) none)

theorem ext_ok : CallOK Try.prog ext := by
  intro f avs h outs hh σ W0 w vals hs hr
  unfold ext at hh
  cases h1 : Nat.beq f 51 with
  | true =>
    rw [h1, cond_true] at hh
    have := Nat.eq_of_beq_eq_true h1
    subst this
    obtain ⟨out, ho, σ', v, w', hrun, rest⟩ := sound_clone (P := Try.prog) hh hs hr
    refine .inl ⟨out, ho, σ', v, w', ?_, rest⟩
    rw [run_callFunc_extern Try.func51 (by kernel_rfl) (by kernel_rfl) (by kernel_rfl) (show Extern.find Try.f51 = some Extern.MapsClone.clone by kernel_rfl), hrun]
    rfl
  | false =>
    rw [h1, cond_false] at hh
    cases h2 : Nat.beq f 38 with
    | true =>
      rw [h2, cond_true] at hh
      have := Nat.eq_of_beq_eq_true h2
      subst this
      refine .inr ⟨?_, sound_sorted hh hs hr⟩
      simp only [callFunc, Sem.run_bind, run_program, Result.andThen_ok, Try.func38]
      rw [if_neg (by rw [show (Try.f38.name == "runtime.NumGoroutine") = false by kernel_rfl]; simp), if_neg (by rw [show Try.f38.body.isNone = false by kernel_rfl]; simp)]
      rfl
    | false => rw [h2] at hh; cases hh
end Go.Abs
