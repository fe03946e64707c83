/- Regions that draw their order and end in one operation that waits for all others (a store): what the others leave is said once. Over whatever program. -/
import Derived.Test.YtdbgihpognfhdaaGreatMSlB
import Derived.Test.YtdbgihpognfhdaaGreatMCloneG
namespace Go.By
open Go Go.RowKit
def fitsT (ops : Array Oper) (n m : Nat) (Ds : List (List Nat)) : Bool :=
  Region.noSelect ops && decide (ops.size = m + 1) &&
  ((List.range m).all fun i => match ops[i]? with
    | none => false
    | some o =>
      (match o.dst with | none => false | some d => decide (d < n) && (List.range ops.size).all fun k => k == i || dstAt ops k != some d) &&
      o.after.all (fun e => !Region.binds .any e || decide (e.on < i)) &&
      (Ds.getD i []).all (fun j => bindsOn o j) &&
      (o.looksAt ops).all fun t => (List.range ops.size).all fun k => dstAt ops k != some t || (Ds.getD i []).contains k || (match ops[k]? with | some ok => bindsOn ok i | none => false)) &&
  match ops[m]? with
  | none => false
  | some o => (dstAt ops m).isNone && o.after.all (fun e => decide (e.on < m)) && (List.range m).all fun k => (List.range ops.size).any fun j => decide (k < j) && (match ops[j]? with | some oj => bindsOn oj k | none => false)
section
variable {P : Program} {ops : Array Oper} {Q : Exit → Act → World → Prop} {a0 : Act} {w0 : World} {Vs : List Lft} {Ds : List (List Nat)}
theorem fitsT_size {n m : Nat} (h : fitsT ops n m Ds = true) : ops.size = m + 1 := by
  unfold fitsT at h
  simp only [Bool.and_eq_true, decide_eq_true_eq] at h
  exact h.1.1.2
theorem fitsT_lt {n m : Nat} (h : fitsT ops n m Ds = true) {i : Nat} (hi : i < ops.size) (hne : i ≠ m) : i < m := by
  have := fitsT_size h
  omega
theorem fitsT_last {n m : Nat} (h : fitsT ops n m Ds = true) : dstAt ops m = none ∧ ∀ o, ops[m]? = some o → (∀ e ∈ o.after, e.on < m) ∧ ∀ k, k < m → ∃ j oj, k < j ∧ j ≤ m ∧ ops[j]? = some oj ∧ bindsOn oj k = true := by
  have hs := fitsT_size h
  unfold fitsT at h
  simp only [Bool.and_eq_true] at h
  have h2 := h.2
  cases ho : ops[m]? with
  | none => rw [ho] at h2; cases h2
  | some o =>
    rw [ho] at h2
    simp only [Bool.and_eq_true, List.all_eq_true, List.mem_range, List.any_eq_true, decide_eq_true_eq] at h2
    obtain ⟨⟨h3, h4⟩, h5⟩ := h2
    refine ⟨by simpa using h3, fun o' ho' => ?_⟩
    cases ho'
    refine ⟨fun e he => by have := (Array.all_eq_true_iff_forall_mem.1 h4) e he; simpa using this, fun k hk => ?_⟩
    obtain ⟨j, hj, hkj, hb⟩ := h5 k hk
    cases hoj : ops[j]? with
    | none => rw [hoj] at hb; cases hb
    | some oj => rw [hoj] at hb; exact ⟨j, oj, hkj, by omega, hoj, hb⟩
theorem fitsT_none {n m : Nat} {t : Tmp} (h : fitsT ops n m Ds = true) (hk : dstAt ops m = some t) : False := by
  rw [(fitsT_last h).1] at hk; cases hk
theorem fits_atT {n m : Nat} (h : fitsT ops n m Ds = true) {i : Nat} (him : i < m) {o : Oper} (hi : ops[i]? = some o) :
    ∃ d, o.dst = some d ∧ d < n ∧ (∀ k, k < ops.size → dstAt ops k = some d → k = i) ∧ (∀ e ∈ o.after, Region.binds .any e = true → e.on < i) ∧ (∀ j ∈ Ds.getD i [], bindsOn o j = true) ∧
      ∀ t ∈ o.looksAt ops, ∀ k, dstAt ops k = some t → k ∈ Ds.getD i [] ∨ ∃ ok, ops[k]? = some ok ∧ bindsOn ok i = true := by
  unfold fitsT at h
  simp only [Bool.and_eq_true] at h
  have h0 := h.1.2
  rw [List.all_eq_true] at h0
  have h1 := h0 i (List.mem_range.2 him)
  simp only [hi, Bool.and_eq_true] at h1
  obtain ⟨⟨⟨h2, h3⟩, h4⟩, h5⟩ := h1
  cases hd : o.dst with
  | none => rw [hd] at h2; cases h2
  | some d =>
    rw [hd] at h2
    simp only [Bool.and_eq_true, decide_eq_true_eq, List.all_eq_true, List.mem_range, Bool.or_eq_true, beq_iff_eq, bne_iff_ne] at h2
    refine ⟨d, rfl, h2.1, fun k hk hkd => ?_, fun e he hb => ?_, fun j hj => ?_, fun t ht k hkt => ?_⟩
    · rcases h2.2 k hk with h | h
      · exact h
      · exact absurd hkd h
    · have := (Array.all_eq_true_iff_forall_mem.1 h3) e he
      simpa [hb] using this
    · exact (List.all_eq_true.1 h4) j hj
    · have h6 := (List.all_eq_true.1 h5) t ht
      have hk : k < ops.size := by
        unfold dstAt at hkt
        cases hok : ops[k]? with
        | none => rw [hok] at hkt; cases hkt
        | some ok => exact (Array.getElem?_eq_some_iff.1 hok).1
      have h7 := (List.all_eq_true.1 h6) k (List.mem_range.2 hk)
      simp only [hkt, Bool.or_eq_true, bne_iff_ne, ne_eq, not_true_eq_false, false_or] at h7
      rcases h7 with h7 | h7
      · exact .inl (by simpa using h7)
      · cases hok : ops[k]? with
        | none => rw [hok] at h7; cases h7
        | some ok => rw [hok] at h7; exact .inr ⟨ok, rfl, h7⟩
theorem last_ready {n m : Nat} (hf : fitsT ops n m Ds = true) {listed : Array Bool} {a : Act} {w : World} (hI : LeftInv ops a0 w0 Vs listed a w) (hr : m ∈ Region.ready .any ops listed) : ∀ d k, k + d + 1 = m → listed.getD k false = true := by
  obtain ⟨hun, o, ho, hall⟩ := mem_ready.1 hr
  obtain ⟨h1, h2⟩ := (fitsT_last hf).2 o ho
  intro d
  induction d using Nat.strongRecOn with
  | _ d ih =>
    intro k hk
    obtain ⟨j, oj, hkj, hjm, hoj, hb⟩ := h2 k (by omega)
    by_cases hj : j = m
    · subst hj
      rw [ho] at hoj; cases hoj
      obtain ⟨e, he, hbe, rfl⟩ := bindsOn_spec.1 hb
      exact hall e he hbe
    · have hl := ih (m - j - 1) (by omega) j (by omega)
      exact hI.shut j oj k hl hoj hb
theorem none_left {n m : Nat} (hf : fitsT ops n m Ds = true) {listed : Array Bool} (hsz : listed.size = ops.size) (hr : Region.ready .any ops listed = []) : listed.getD m false = true := by
  have hs := fitsT_size hf
  have hfr : ∀ i, i < m → listed.getD i false = true := by
    intro i
    induction i using Nat.strongRecOn with
    | _ i ih =>
      intro hi
      cases hl : listed.getD i false with
      | true => rfl
      | false =>
        exfalso
        have ho : ops[i]? = some ops[i] := Array.getElem?_eq_getElem (by omega)
        obtain ⟨d, _, _, _, haft, _⟩ := fits_atT hf hi ho
        have hm : i ∈ Region.ready .any ops listed := mem_ready.2 ⟨by
          have hi' : i < listed.size := by omega
          simpa [Array.getD, hi'] using hl, _, ho, fun e he hb => ih e.on (haft e he hb) (by have := haft e he hb; omega)⟩
        rw [hr] at hm
        cases hm
  cases hl : listed.getD m false with
  | true => rfl
  | false =>
    exfalso
    have ho : ops[m]? = some (ops[m]'(by omega)) := Array.getElem?_eq_getElem (by omega)
    have hm : m ∈ Region.ready .any ops listed := mem_ready.2 ⟨by
      have hi' : m < listed.size := by omega
      simpa [Array.getD, hi'] using hl, _, ho, fun e he _ => hfr e.on (((fitsT_last hf).2 _ ho).1 e he)⟩
    rw [hr] at hm
    cases hm
theorem leftInv_stepT {n m : Nat} (hf : fitsT ops n m Ds = true) (hn : a0.tmps.size = n) (hob : LeftOps P ops a0 w0 Vs Ds Vs (ops.toList.take m)) {listed : Array Bool} {a : Act} {w : World} (hI : LeftInv ops a0 w0 Vs listed a w) (hml : listed.getD m false = false) {i : Nat} (him : i < m)
    (hr : i ∈ Region.ready .any ops listed) {K : Act → World → Prop} (hK : ∀ a' w', LeftInv ops a0 w0 Vs (listed.setIfInBounds i true) a' w' → K a' w') : wpOp P ops Q i K a w := by
  obtain ⟨hun, o, ho, hall⟩ := mem_ready.1 hr
  obtain ⟨d, hd, hdn, hdis, haft, hDs, hlook⟩ := fits_atT hf him ho
  have hlt : i < ops.size := (Array.getElem?_eq_some_iff.1 ho).1
  have hnl : listed.getD i false = false := by
    have : i < listed.size := by rw [hI.size]; exact hlt
    simpa [Array.getD, this] using hun
  have hop : LeftOp P ops a0 w0 Vs (Ds.getD i []) (Vs.getD i .none) o := LeftOps.at hob (i := i) (by rw [List.getElem?_take_of_lt him]; simpa using ho)
  have hsel : Region.noSelect ops = true := by
    unfold fitsT at hf
    simp only [Bool.and_eq_true] at hf
    exact hf.1.1.1
  -- those that it waits for have come up
  have hj : ∀ j ∈ Ds.getD i [], listed.getD j false = true := fun j hj => by
    obtain ⟨e, he, hb, rfl⟩ := bindsOn_spec.1 (hDs j hj)
    exact hall e he hb
  have hjd : ∀ j ∈ Ds.getD i [], ∃ d', dstAt ops j = some d' ∧ d' < a.tmps.size ∧ (Vs.getD j .none).holds (a.eval (.tmp d')) w := fun j hjm => by
    have hl := hj j hjm
    have hjs : j < ops.size := by
      rcases Nat.lt_or_ge j listed.size with h | h
      · rw [← hI.size]; exact h
      · simp [Array.getD, Nat.not_lt.2 h] at hl
    have hoj : ops[j]? = some ops[j] := Array.getElem?_eq_getElem hjs
    obtain ⟨d', hd', hdn', _⟩ := fits_atT hf (fitsT_lt hf hjs (fun e => by subst e; rw [hml] at hl; cases hl)) hoj
    have hda : dstAt ops j = some d' := by unfold dstAt; rw [hoj]; exact hd'
    exact ⟨d', hda, by rw [hI.tmps, hn]; exact hdn', hI.left j d' hl hda⟩
  obtain ⟨b, hb, hbs, hbd, hb1, hb2⟩ := withLeft_out (a := a) (hop w hI.below) hI.tmps.symm hI.defers.symm hjd
  have hag : ∀ t ∈ o.looksAt ops, b.tmps[t]? = a.tmps[t]? := fun t ht => by
    by_cases hex : ∃ k, dstAt ops k = some t
    · obtain ⟨k, hk⟩ := hex
      rcases hlook t ht k hk with h | ⟨ok, hok, hbk⟩
      · exact hb1 t ⟨k, h, hk⟩
      · refine hb2 t ((hI.out t fun m hm hmt => ?_).symm)
        -- only k leaves t, and it waits for i
        have hks : k < ops.size := (Array.getElem?_eq_some_iff.1 hok).1
        obtain ⟨dk, hdk, _, hdisk, _⟩ := fits_atT hf (fitsT_lt hf hks (fun e => by subst e; exact fitsT_none hf hk)) hok
        have hkt : dk = t := by
          have : dstAt ops k = some dk := by unfold dstAt; rw [hok]; exact hdk
          rw [this] at hk; exact Option.some.inj hk
        subst hkt
        have hms : m < ops.size := by
          rcases Nat.lt_or_ge m listed.size with h | h
          · rw [← hI.size]; exact h
          · simp [Array.getD, Nat.not_lt.2 h] at hm
        have hmk := hdisk m hms hmt
        subst hmk
        rw [hI.shut m ok i hm hok hbk] at hnl
        cases hnl
    · exact hb2 t ((hI.out t fun m _ hmt => hex ⟨m, hmt⟩).symm)
  refine leftOp_run ho hd (fun cs c => Region.noSelect_spec hsel i o cs c ho) (by rw [hbs, hI.tmps, hn]; exact hdn) hag hb fun v w' hv hbel => hK _ _ ?_
  have hdi : dstAt ops i = some d := by unfold dstAt; rw [ho]; exact hd
  have hset : ∀ k, (listed.setIfInBounds i true).getD k false = true → k = i ∨ listed.getD k false = true := fun k hk => by
    by_cases hki : k = i
    · exact .inl hki
    · rw [getD_set_ne false (Ne.symm hki)] at hk
      exact .inr hk
  have hin : ∀ k, listed.getD k false = true → k < ops.size := fun k hk => by
    rcases Nat.lt_or_ge k listed.size with h | h
    · rw [← hI.size]; exact h
    · simp [Array.getD, Nat.not_lt.2 h] at hk
  have hda : d < a.tmps.size := by rw [hI.tmps, hn]; exact hdn
  have hne : ∀ k d', listed.getD k false = true → dstAt ops k = some d' → d ≠ d' := fun k d' hk hkd he => by
    subst he
    have := hdis k (hin k hk) hkd
    subst this
    rw [hk] at hnl
    cases hnl
  refine ⟨by rw [Array.size_setIfInBounds]; exact hI.size, hI.below.trans (hbel.mono hI.below.size), by rw [put_size]; exact hI.tmps, by rw [put_defers]; exact hI.defers, fun k d' hk hkd => ?_, fun t ht => ?_, fun k ok j hk hok hb => ?_⟩
  · by_cases hki : k = i
    · subst hki
      rw [hdi] at hkd
      cases hkd
      rw [put_at hda]
      exact hv
    · have hk := (hset k hk).resolve_left hki
      rw [Act.eval_tmp, put_get (hne k d' hk hkd), ← Act.eval_tmp]
      exact Lft.lasts (hI.left k d' hk hkd) hbel
  · have hi' : (listed.setIfInBounds i true).getD i false = true := by
      have : i < listed.size := by rw [hI.size]; exact hlt
      simp [Array.getD, this]
    have hdt : d ≠ t := fun he => ht i hi' (by rw [hdi, he])
    rw [put_get hdt]
    exact hI.out t fun k hk => ht k (getD_set_true hk)
  · by_cases hki : k = i
    · subst hki
      rw [ho] at hok
      cases hok
      obtain ⟨e, he, hbe, rfl⟩ := bindsOn_spec.1 hb
      exact getD_set_true (hall e he hbe)
    · exact getD_set_true (hI.shut k ok j ((hset k hk).resolve_left hki) hok hb)
theorem wpOp_of_list {i : Nat} {o : Oper} {a : Act} {w : World} {K : Act → World → Prop} (hi : ops[i]? = some o) (h : wpList P ops Q [o] a w) (hK : ∀ a w, Q .normal a w → K a w) : wpOp P ops Q i K a w := by
  unfold wpOp
  simp only [hi]
  unfold wpList at h
  split
  · rename_i hw
    rw [if_pos hw] at h
    rcases h with h | h
    · exact .inl (Oper.wp_mono (fun a w h => hK a w h) h)
    · exact .inr h
  · rename_i hw
    rw [if_neg hw] at h
    exact hK _ _ h
theorem leftInv_anyT {n m : Nat} (hf : fitsT ops n m Ds = true) (hn : a0.tmps.size = n) (hob : LeftOps P ops a0 w0 Vs Ds Vs (ops.toList.take m)) (hlen : Vs.length = m)
    (hend : ∀ w, Below w0.heap.size w0 w → LeftEnd w (fun a => wpList P ops Q (ops.toList.drop m) a w) Vs (ops.toList.take m) a0) :
    ∀ (fuel : Nat) (listed : Array Bool) (a : Act) (w : World), openOf listed = fuel → listed.getD m false = false → LeftInv ops a0 w0 Vs listed a w → wpAny P .any ops Q fuel listed a w := by
  have hs := fitsT_size hf
  have hom : ops[m]? = some (ops[m]'(by omega)) := Array.getElem?_eq_getElem (by omega)
  have hdrop : ops.toList.drop m = [ops[m]'(by omega)] := by
    rw [List.drop_eq_getElem_cons (by rw [Array.length_toList]; omega), List.drop_eq_nil_of_le (by rw [Array.length_toList]; omega)]
    simp
  have fin : ∀ (listed : Array Bool) (a : Act) (w : World), LeftInv ops a0 w0 Vs listed a w → m ∈ Region.ready .any ops listed → wpList P ops Q [ops[m]'(by omega)] a w := fun listed a w hI hr => by
    have hall : ∀ k, k < m → listed.getD k false = true := fun k hk => last_ready hf hI hr (m - k - 1) k (by omega)
    rw [← hdrop]
    refine putAll_end (w := w) (a := a) (K := fun a => wpList P ops Q (ops.toList.drop m) a w) (Ls := Vs) (os := ops.toList.take m) (b := a0) (by rw [hlen, List.length_take, Array.length_toList]; omega) (fun i o ho => ?_) hI.tmps.symm hI.defers.symm (fun t ht => ?_) (hend w hI.below)
    · have him : i < m := by
        have := (List.getElem?_eq_some_iff.1 ho).1
        rw [List.length_take] at this; omega
      have ho' : ops[i]? = some o := by
        rw [List.getElem?_take_of_lt him] at ho
        simpa using ho
      obtain ⟨d, hd, hdn, _⟩ := fits_atT hf him ho'
      have hda : dstAt ops i = some d := by unfold dstAt; rw [ho']; exact hd
      exact ⟨d, hd, by rw [hI.tmps, hn]; exact hdn, hI.left i d (hall i him) hda⟩
    · refine (hI.out t fun i hl hit => ?_).symm
      have hit' := hit
      unfold dstAt at hit
      cases ho : ops[i]? with
      | none => rw [ho] at hit; cases hit
      | some o =>
        rw [ho] at hit
        have him : i < m := fitsT_lt hf (Array.getElem?_eq_some_iff.1 ho).1 (fun e => by subst e; exact fitsT_none hf hit')
        refine ht o ?_ hit
        have : (ops.toList.take m)[i]? = some o := by rw [List.getElem?_take_of_lt him]; simpa using ho
        exact List.mem_of_getElem? this
  have step : ∀ (listed : Array Bool) (a : Act) (w : World) (i : Nat), LeftInv ops a0 w0 Vs listed a w → i ∈ Region.ready .any ops listed → openOf (listed.setIfInBounds i true) + 1 = openOf listed := fun listed a w i hI hm => by
    obtain ⟨hun, o, ho, _⟩ := mem_ready.1 hm
    have hlt : i < listed.size := by rw [hI.size]; exact (Array.getElem?_eq_some_iff.1 ho).1
    exact openOf_set (by
      rw [Array.getElem?_eq_getElem hlt]
      simpa [Array.getD, hlt] using hun)
  intro fuel
  induction fuel with
  | zero =>
    intro listed a w hc hml hI
    have hr : Region.ready .any ops listed = [] := by
      cases h : Region.ready .any ops listed with
      | nil => rfl
      | cons i r =>
        exfalso
        have := step listed a w i hI (by rw [h]; exact List.mem_cons_self ..)
        omega
    have := none_left hf hI.size hr
    rw [hml] at this; cases this
  | succ fuel ih =>
    intro listed a w hc hml hI
    refine ⟨fun hr => ?_, fun i hi => ?_⟩
    · have := none_left hf hI.size hr
      rw [hml] at this; cases this
    · have hi' := hi
      obtain ⟨hun, o, ho, hall⟩ := mem_ready.1 hi
      have hlt : i < ops.size := (Array.getElem?_eq_some_iff.1 ho).1
      have hst := step listed a w i hI hi
      by_cases him : i = m
      · subst him
        refine wpOp_of_list hom (fin listed a w hI hi) fun a' w' hq => ?_
        have hall' : ∀ k, k < ops.size → (listed.setIfInBounds i true).getD k false = true := fun k hk => by
          by_cases hki : k = i
          · subst hki
            have : k < listed.size := by rw [hI.size]; exact hk
            simp [Array.getD, this]
          · exact getD_set_true (last_ready hf hI hi (i - k - 1) k (by omega))
        have hr : Region.ready .any ops (listed.setIfInBounds i true) = [] := by
          cases h : Region.ready .any ops (listed.setIfInBounds i true) with
          | nil => rfl
          | cons j r =>
            exfalso
            have hm : j ∈ Region.ready .any ops (listed.setIfInBounds i true) := by rw [h]; exact List.mem_cons_self ..
            obtain ⟨hun, o, ho, _⟩ := mem_ready.1 hm
            have hj : j < ops.size := (Array.getElem?_eq_some_iff.1 ho).1
            have h1 := hall' j hj
            have h2 : j < (listed.setIfInBounds i true).size := by rw [Array.size_setIfInBounds, hI.size]; exact hj
            simp only [Array.getD, h2, dite_true] at h1 hun
            simp_all
        cases fuel with
        | zero => exact ⟨hr, hq⟩
        | succ fuel => exact ⟨fun _ => hq, fun j hj => by rw [hr] at hj; cases hj⟩
      · refine leftInv_stepT hf hn hob hI hml (fitsT_lt hf hlt him) hi fun a' w' hI' => ih _ a' w' (by omega) ?_ hI'
        rw [getD_set_ne false him]
        exact hml
theorem wp_region_left_tail {id : Nat} (hm : P.follows .mixedOrders = true) (m : Nat) (Vs : List Lft) (Ds : List (List Nat)) (hf : fitsT ops a0.tmps.size m Ds = true) (hlen : Vs.length = m)
    (hob : LeftOps P ops a0 w0 Vs Ds Vs (ops.toList.take m)) (hend : ∀ w, Below w0.heap.size w0 w → LeftEnd w (fun a => wpList P ops Q (ops.toList.drop m) a w) Vs (ops.toList.take m) a0) : (Code.region id ops true).wp P Q a0 w0 := by
  have hs := fitsT_size hf
  refine wp_region_any hm (leftInv_anyT hf rfl hob hlen hend _ _ _ _ ?_ ?_ ?_)
  · unfold openOf
    simp
  · by_cases h : m < ops.size <;> simp [Array.getD, h]
  · refine ⟨by simp, (Below.refl _ _).drew, rfl, rfl, fun i d hi _ => ?_, fun _ _ => rfl, fun k ok i hk _ _ => ?_⟩
    · by_cases h : i < ops.size <;> simp [Array.getD, h] at hi
    · by_cases h : k < ops.size <;> simp [Array.getD, h] at hk
end
end Go.By
/- The document's numbers, highest byte first. -/
namespace Go.Proofs.YtdbgihpognfhdaaGreat.Sl.Nd
open Go Go.RowKit Go.By
def HighRel (w0 : World) (v n : Nat) (x i : Value) (w : World) : Prop :=
  ∃ (m : Nat) (cur : Nat) (tl : List Nat), m ≤ n ∧ m + tl.length = n ∧ x = .int .u64 (cur : Nat) ∧ i = .int .i64 ((m : Int) - 1) ∧ cur < 18446744073709551616 ∧ highOf v n = highOf cur m ++ tl ∧ Filled w0 w (List.replicate m 0 ++ tl)
set_option maxRecDepth 100000 in
theorem high_any (v n : Nat) (w : World) (hv : v < 18446744073709551616) (hn : n ≤ 1000) :
    Calls Tryz.prog 32 #[.int .u64 v, .int .i64 n] w fun e w' => ∃ v', e = .returned v' ∧ w'.ownsRow w.heap.size 5 1 v' n (cellsOf (highOf v n)) ∧ Below w.heap.size w w' := by
  have hmk := made_run n n (n : Int) (n : Int) rfl rfl (Nat.le_refl _) (by omega)
  have HV := Lib.hid hv; clear hv
  go_enter Tryz.func32, Tryz.ntmps32
  go_wp2
  clear hmk
  have h0 : HighRel w v n (.int .u64 v) (.int .i64 ((n : Int) - 1)) (w.alloc (.cells (zeros n) 5)) :=
    ⟨n, v, [], Nat.le_refl _, by simp, rfl, rfl, HV.out, by simp, by
      refine ⟨?_, (Below.refl _ _).alloc (Nat.le_refl _) _⟩
      rw [List.append_nil]; exact heap_alloc_new w _⟩
  have H0 := Lib.hid h0; clear h0
  go_loopw [0, 6] (fun x i wr => HighRel w v n x i wr) (fun _ i _ => (intOf i + 1).toNat)
  case atStart => exact H0.out
  case round =>
    clear H0
    obtain ⟨m, cur, tl, hmn, hml, rfl, rfl, hcur, heq, hf⟩ := hrel
    cases m with
    | zero =>
      have e1 : highOf v n = tl := by simpa [highOf] using heq
      have e2 : tl.length = n := by omega
      have HO := Lib.hid (hf.owns (by simp; unfold maxLen; omega))
      have HB := Lib.hid hf.2
      have E1 := Lib.hid e1; have E2 := Lib.hid e2
      clear heq hf hmn hml hcur e1 e2
      go_wp2
      go_ret
      refine ⟨_, rfl, ?_, HB.out⟩
      have := HO.out
      rw [E1.out]
      simp only [List.replicate_zero, List.nil_append, E2.out] at this
      exact this
    | succ m =>
      have hlen : (List.replicate (m + 1) 0 ++ tl).length = n := by simp; omega
      have hc := hf.cell (i := m) (by rw [hlen]; omega)
      have hfr := hf.free m
      have hset : (List.replicate (m + 1) 0 ++ tl).set m (cur % 256) = List.replicate m 0 ++ (cur % 256 :: tl) := by
        rw [List.replicate_succ', List.append_assoc, List.set_append_right _ _ (by simp)]
        simp
      have hf2 := hf.set m (cur % 256)
      rw [hset] at hf2
      have hrel2 : HighRel w v n (.int .u64 (cur / 256 : Nat)) (.int .i64 ((m : Int) - 1)) (wr.setCell ⟨w.heap.size, m, none⟩ (.int .u8 (cur % 256 : Nat))) :=
        ⟨m, cur / 256, _, by omega, by simp; omega, rfl, rfl, by omega, by rw [heq]; simp [highOf], hf2⟩
      have HR := Lib.hid hrel2
      have hx : ((m + 1 : Nat) : Int) - 1 = (m : Int) := by omega
      rw [hx]
      have hmn' : (m : Int) < n := by omega
      have hcur' : (cur : Int) < 18446744073709551616 := by omega
      clear hset hf hf2 heq hrel2 hlen hx hml hmn hcur
      go_wp2
      go_roundw
      case rel => exact HR.out
      case measure => simp [intOf]
set_option maxRecDepth 100000 in
theorem num_any (v : Value) (l : List Nat) (w : World) (hv : Bytes w v l) (hl : l.length ≤ 8) :
    Calls Tryz.prog 97 #[v] w fun e w' => e = .returned (.int .u64 (numOf l : Nat)) ∧ w = w' := by
  obtain ⟨p, cap, rfl, _⟩ := hv.any
  have HV := Lib.hid hv; clear hv
  go_enter Tryz.func97, Tryz.ntmps97
  go_wp2
  go_loop [3, 4] (fun x i => ∃ k : Nat, k ≤ l.length ∧ i = .int .i64 k ∧ x = .int .u64 (numOf (l.take k) : Nat)) (fun _ i => l.length - (intOf i).toNat)
  case atStart => exact ⟨0, by omega, rfl, rfl⟩
  case round =>
    obtain ⟨k, hk, rfl, rfl⟩ := hrel
    by_cases hlt : k < l.length
    · obtain ⟨b1, o1, rfl, hcell⟩ := HV.out.spot k hlt
      have hn : numOf (l.take k) < 72057594037927936 := by
        have h1 := numOf_lt (l.take k) (fun c hc => HV.out.small c (List.mem_of_mem_take hc))
        have h2 : 256 ^ (l.take k).length ≤ 256 ^ 7 := Nat.pow_le_pow_right (by omega) (by rw [List.length_take]; omega)
        exact Nat.lt_of_lt_of_le h1 (Nat.le_trans h2 (by decide))
      have hcl : atB l k < 256 := HV.out.at_lt hlt
      have hs : numOf (l.take (k + 1)) = numOf (l.take k) * 256 + atB l k := by
        rw [List.take_succ_eq_append_getElem hlt, numOf_snoc, atB_of hlt]
      have HS := Lib.hid hs; clear hs
      generalize numOf (l.take k) = x at *
      generalize atB l k = y at *
      have hx : (x : Int) < 72057594037927936 := by omega
      have hy : (y : Int) < 256 := by omega
      clear hn hcl
      go_wp2
      go_round
      case rel => exact ⟨k + 1, by omega, by go_num, by rw [HS.out]; go_num⟩
      case measure => simp [intOf]; omega
    · obtain rfl : k = l.length := by omega
      rw [List.take_length]
      go_wp2
      go_ret
      exact ⟨rfl, rfl⟩
end Go.Proofs.YtdbgihpognfhdaaGreat.Sl.Nd
