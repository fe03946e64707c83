/- The document's reader of nodes: what has been read lies beside it. -/
import Derived.Test.YtdbgihpognfhdaaGreatMRdB
import Derived.Test.YtdbgihpognfhdaaGreatMNdN
import Derived.Test.YtdbgihpognfhdaaGreatMTrW
namespace Go.Proofs.YtdbgihpognfhdaaGreat.Sl.Nd
open Go Go.RowKit Go.By
theorem ty_rd : 5 ≠ 183 ∧ 49 ≠ 183 ∧ 26 ≠ 183 ∧ 25 ≠ 183 ∧ 38 ≠ 183 := by decide
theorem ty_nd : 5 ≠ 38 ∧ 49 ≠ 38 ∧ 26 ≠ 38 ∧ 25 ≠ 38 := by decide
section
variable {w w' : World} {B b : Nat} {v : Value} {c : Array Value} {T : TypeId} {fr : Nat × Nat}
theorem KyRow.onlyT {ks : List (List Nat)} (h : KyRow w B v ks) (hb : w.heap[b]? = some (.cells c T fr)) (hT : 5 ≠ T ∧ 26 ≠ T) (ho : Only b w w') : KyRow w' B v ks := by
  obtain ⟨cs, h1, h2, h3⟩ := h
  exact ⟨cs, h1, owns_only h2 hb hT.2 ho, fun j hj hj' => (h3 j hj hj').onlyT hb hT.1 ho⟩
theorem KdRow.onlyT {kids : List NKd} (h : KdRow w B v kids) (hb : w.heap[b]? = some (.cells c T fr)) (hT : 25 ≠ T) (ho : Only b w w') : KdRow w' B v kids := ⟨owns_only h.1 hb hT ho, h.2⟩
theorem Txt.base {B' : Nat} {l : List Nat} (h : Txt w B v l) (hb : B' ≤ B) : Txt w B' v l := ⟨owns_base h.1 hb, h.2⟩
end
theorem Only.of_grown {w w' : World} {g : Nat} (h : w.grownBy w' (some g)) : Only g w w' := ⟨h.os, h.tape, h.output, h.size, fun k hk hne => h.block k hk (fun e => hne (Option.some.inj e))⟩
structure RdN (w0 : World) (A g nb : Nat) (w : World) (cs : Array Value) (s : Option (List Nat)) : Prop where
  rd : ∃ l bad, RdOf w0 w g l bad ∧ s = rdS l bad
  nd : w.heap[nb]? = some (.cells cs 38 (0, 0))
  below : Below w0.heap.size w0 w
  hg : w0.heap.size ≤ g
  hn : w0.heap.size ≤ nb
  res : w.heap[A]? = some (.cells #[.bool false, .slice none 0 0, .slice none 0 0, .slice none 0 0] 38 (0, 0))
  hA : w0.heap.size ≤ A
  ne1 : A ≠ nb
section
variable {w0 w w' : World} {A g nb : Nat} {cs : Array Value} {s : Option (List Nat)}
theorem RdN.at_ (h : RdN w0 A g nb w cs s) : ∃ v, w.heap[g]? = some (.cells #[v, .bool s.isNone] 183 (0, 0)) ∧ ∀ l, s = some l → Bytes w0 v l := by
  obtain ⟨l, bad, ⟨v, h1, h2⟩, rfl⟩ := h.rd
  refine ⟨v, ?_, fun l' hl => ?_⟩
  · rw [h1]; cases bad <;> rfl
  · cases bad with
    | true => cases hl
    | false => obtain rfl : l = l' := Option.some.inj hl; exact h2
theorem RdN.ne (h : RdN w0 A g nb w cs s) : nb ≠ g := by
  obtain ⟨v, h1, -⟩ := h.at_
  rintro rfl
  rw [h.nd] at h1
  simp only [Option.some.injEq, Obj.cells.injEq] at h1
  exact ty_rd.2.2.2.2 h1.2.1
theorem RdN.ne2 (h : RdN w0 A g nb w cs s) : A ≠ g := by
  obtain ⟨v, h1, -⟩ := h.at_
  rintro rfl
  rw [h.res] at h1
  simp only [Option.some.injEq, Obj.cells.injEq] at h1
  exact ty_rd.2.2.2.2 h1.2.1
theorem RdN.ltA (h : RdN w0 A g nb w cs s) : A < w.heap.size := (Array.getElem?_eq_some_iff.1 h.res).1
theorem RdN.ltg (h : RdN w0 A g nb w cs s) : g < w.heap.size := let ⟨_, h1, _⟩ := h.at_; (Array.getElem?_eq_some_iff.1 h1).1
theorem RdN.ltn (h : RdN w0 A g nb w cs s) : nb < w.heap.size := (Array.getElem?_eq_some_iff.1 h.nd).1
theorem RdN.size (h : RdN w0 A g nb w cs s) : w0.heap.size ≤ w.heap.size := Nat.le_of_lt (Nat.lt_of_le_of_lt h.hg h.ltg)
theorem RdN.turned (h : RdN w0 A g nb w cs s) (ho : Only g w w') {s' : Option (List Nat)} (hr : ∃ l bad, RdOf w0 w' g l bad ∧ s' = rdS l bad) : RdN w0 A g nb w' cs s' :=
  ⟨hr, (ho.block nb h.ltn h.ne).trans h.nd, Below.only h.below h.hg h.size ho, h.hg, h.hn, (ho.block A h.ltA h.ne2).trans h.res, h.hA, h.ne1⟩
theorem RdN.text (h : RdN w0 A g nb w cs s) : Calls Tryz.prog 100 #[.pointer (some ⟨g, 0, none⟩)] w fun e w' => ∃ v', e = .returned v' ∧ Txt w' w0.heap.size v' (rdText s).1 ∧ RdN w0 A g nb w' cs (rdText s).2 ∧ Only g w w' := by
  obtain ⟨l, bad, hr, rfl⟩ := h.rd
  refine (roText_any w0 g l bad w hr h.below h.hg).mono ?_
  rintro e w' ⟨v', l', bad', rfl, ho, hs, hr', hg⟩
  have hO := Only.of_grown hg
  have hsm : ∀ c ∈ (rdText (rdS l bad)).1, c < 256 := by
    unfold rdText
    cases bad with
    | true => intro c hc; cases hc
    | false =>
      cases h2 : (rdTake 1 (rdS l false)).2 with
      | none => intro c hc; cases hc
      | some r =>
        have hr2 : ∀ c ∈ r, c < 256 := by
          unfold rdTake rdS at h2
          simp only [Bool.false_eq_true, if_false] at h2
          split at h2
          · obtain rfl := Option.some.inj h2
            exact fun c hc => hr.small c (List.mem_of_mem_drop hc)
          · cases h2
        exact rdTake_small (bad := false) hr2
  have hsh : (rdText (rdS l bad)).1.length ≤ maxLen := by
    have h1 : numOf (rdTake 1 (rdS l bad)).1 < 256 := by
      have hlt := numOf_lt _ (rdTake_small (n := 1) (bad := bad) hr.small)
      exact Nat.lt_of_lt_of_le hlt (Nat.le_trans (Nat.pow_le_pow_right (by omega) (rdTake_short (n := 1))) (by decide))
    have h2 : (rdText (rdS l bad)).1.length ≤ numOf (rdTake 1 (rdS l bad)).1 := rdTake_short
    unfold maxLen; omega
  exact ⟨v', rfl, ⟨owns_base ho h.size, hsm, hsh⟩, h.turned hO ⟨l', bad', hr', hs.symm⟩, hO⟩
theorem RdN.num (h : RdN w0 A g nb w cs s) (n : Nat) (hn : n ≤ 8) : Calls Tryz.prog 99 #[.pointer (some ⟨g, 0, none⟩), .int .i64 n] w fun e w' => e = .returned (.int .u64 (numOf (rdTake n s).1 : Nat)) ∧ RdN w0 A g nb w' cs (rdTake n s).2 ∧ Only g w w' := by
  obtain ⟨l, bad, hr, rfl⟩ := h.rd
  refine (roNum_any w0 g n l bad w hr h.below h.hg hn).mono ?_
  rintro e w' ⟨l', bad', rfl, hs, hr', hg⟩
  have hO := Only.of_grown hg
  exact ⟨rfl, h.turned hO ⟨l', bad', hr', hs.symm⟩, hO⟩
theorem RdN.set (h : RdN w0 A g nb w cs s) (i : Nat) (v : Value) : RdN w0 A g nb (w.setCell ⟨nb, i, none⟩ v) (cs.setIfInBounds i v) s := by
  obtain ⟨l, bad, ⟨u, h1, h2⟩, rfl⟩ := h.rd
  exact ⟨⟨l, bad, ⟨u, (heap_setCell_other w ⟨nb, i, none⟩ g v (Ne.symm h.ne)).trans h1, h2⟩, rfl⟩, set_heap h.nd i v, h.below.setCell h.hn _, h.hg, h.hn, (heap_setCell_other w ⟨nb, i, none⟩ A v h.ne1).trans h.res, h.hA, h.ne1⟩
theorem RdN.new (h : RdN w0 A g nb w cs s) (hb : Below w.heap.size w w') : RdN w0 A g nb w' cs s := by
  obtain ⟨l, bad, ⟨u, h1, h2⟩, rfl⟩ := h.rd
  exact ⟨⟨l, bad, ⟨u, (hb.block _ (Array.getElem?_eq_some_iff.1 h1).1).trans h1, h2⟩, rfl⟩, (hb.block _ h.ltn).trans h.nd, h.below.trans (hb.mono h.size), h.hg, h.hn, (hb.block _ h.ltA).trans h.res, h.hA, h.ne1⟩
theorem RdN.grow (h : RdN w0 A g nb w cs s) {e : TypeId} {sz n : Nat} {v v' : Value} {xs : List Value} (ho : w.ownsRow w0.heap.size e sz v n xs) (h1 : e ≠ 183) (h2 : e ≠ 38) (hG : Grows w w' v v') : RdN w0 A g nb w' cs s := by
  obtain ⟨l, bad, ⟨u, hu, hy⟩, rfl⟩ := h.rd
  exact ⟨⟨l, bad, ⟨u, (hG.block h.ltg (owns_ne ho hu h1)).trans hu, hy⟩, rfl⟩, (hG.block h.ltn (owns_ne ho h.nd h2)).trans h.nd, hG.below h.below h.size (fun k hk => (ho.lt k hk).1), h.hg, h.hn, (hG.block h.ltA (owns_ne ho h.res h2)).trans h.res, h.hA, h.ne1⟩
theorem it_push {iv a c : Value} {its : List NIt} {it : NIt} (h : RdN w0 A g nb w #[.bool true, iv, .slice none 0 0, .slice none 0 0] s) (hi : ItRow w w0.heap.size iv its) (hn : its.length ≤ 1000000) (ha : Txt w w0.heap.size a it.k) (hc : Txt w w0.heap.size c it.v) :
    ∃ p' c' w', (Builtin.append_ #[35, 35] 35 #[iv, .slice (some ⟨w.heap.size, 0, none⟩) 1 1]).run Tryz.prog (w.alloc (.cells #[a, c] 49)) = .ok (.slice p' (its.length + 1) c') w' ∧
      w'.heap[nb]? = some (.cells #[.bool true, iv, .slice none 0 0, .slice none 0 0] 38 (0, 0)) ∧
      RdN w0 A g nb (w'.setCell ⟨nb, 1, none⟩ (.slice p' (its.length + 1) c')) #[.bool true, .slice p' (its.length + 1) c', .slice none 0 0, .slice none 0 0] s ∧ ItRow (w'.setCell ⟨nb, 1, none⟩ (.slice p' (its.length + 1) c')) w0.heap.size (.slice p' (its.length + 1) c') (its ++ [it]) := by
  obtain ⟨v', w', hrun, hrow, hG⟩ := hi.push hn h.size ha hc
  obtain ⟨_, _, ho, _⟩ := hi
  have h' := h.grow ho ty_rd.2.1 ty_nd.2.1 hG
  obtain ⟨p', c', rfl, -⟩ := hrow.at_
  rw [List.length_append] at hrun hrow
  exact ⟨p', c', w', hrun, h'.nd, h'.set 1 _, hrow.onlyT h'.nd ⟨ty_nd.1, ty_nd.2.1⟩ (Only.set nb 1 w' _)⟩
theorem ky_push {kv dv a : Value} {ks : List (List Nat)} {kids : List NKd} {k : List Nat} (h : RdN w0 A g nb w #[.bool false, .slice none 0 0, kv, dv] s) (hi : KyRow w w0.heap.size kv ks) (hd : KdRow w w0.heap.size dv kids) (hn : ks.length ≤ 1000000) (ha : Txt w w0.heap.size a k) :
    ∃ p' c' w', (Builtin.append_ #[36, 36] 36 #[kv, .slice (some ⟨w.heap.size, 0, none⟩) 1 1]).run Tryz.prog (w.alloc (.cells #[a] 26)) = .ok (.slice p' (ks.length + 1) c') w' ∧
      w'.heap[nb]? = some (.cells #[.bool false, .slice none 0 0, kv, dv] 38 (0, 0)) ∧
      RdN w0 A g nb (w'.setCell ⟨nb, 2, none⟩ (.slice p' (ks.length + 1) c')) #[.bool false, .slice none 0 0, .slice p' (ks.length + 1) c', dv] s ∧ KyRow (w'.setCell ⟨nb, 2, none⟩ (.slice p' (ks.length + 1) c')) w0.heap.size (.slice p' (ks.length + 1) c') (ks ++ [k]) ∧ KdRow (w'.setCell ⟨nb, 2, none⟩ (.slice p' (ks.length + 1) c')) w0.heap.size dv kids := by
  obtain ⟨v', w', hrun, hrow, hG⟩ := hi.push hn h.size ha
  obtain ⟨_, _, ho, _⟩ := hi
  have h' := h.grow ho ty_rd.2.2.1 ty_nd.2.2.1 hG
  have hdd : KdRow w' w0.heap.size dv kids := ⟨owns_grows hd.1 ho (Ne.symm ty_ne.2.2.2.2.2.2.2) hG, hd.2⟩
  obtain ⟨p', c', rfl, -⟩ := hrow.at_
  rw [List.length_append] at hrun hrow
  exact ⟨p', c', w', hrun, h'.nd, h'.set 2 _, hrow.onlyT h'.nd ⟨ty_nd.1, ty_nd.2.2.1⟩ (Only.set nb 2 w' _), hdd.onlyT h'.nd ty_nd.2.2.2 (Only.set nb 2 w' _)⟩
theorem kd_push {kv dv : Value} {ks : List (List Nat)} {kids : List NKd} {d : NKd} (h : RdN w0 A g nb w #[.bool false, .slice none 0 0, kv, dv] s) (hi : KyRow w w0.heap.size kv ks) (hd : KdRow w w0.heap.size dv kids) (hn : kids.length ≤ 1000000) (hq : d.off ≤ 9223372036854775807 ∧ d.ct < 18446744073709551616) :
    ∃ p' c' w', (Builtin.append_ #[34, 34] 34 #[dv, .slice (some ⟨w.heap.size, 0, none⟩) 1 1]).run Tryz.prog (w.alloc (.cells #[.int .i64 d.off, .int .u64 (d.ct : Nat)] 25)) = .ok (.slice p' (kids.length + 1) c') w' ∧
      w'.heap[nb]? = some (.cells #[.bool false, .slice none 0 0, kv, dv] 38 (0, 0)) ∧
      RdN w0 A g nb (w'.setCell ⟨nb, 3, none⟩ (.slice p' (kids.length + 1) c')) #[.bool false, .slice none 0 0, kv, .slice p' (kids.length + 1) c'] s ∧ KyRow (w'.setCell ⟨nb, 3, none⟩ (.slice p' (kids.length + 1) c')) w0.heap.size kv ks ∧ KdRow (w'.setCell ⟨nb, 3, none⟩ (.slice p' (kids.length + 1) c')) w0.heap.size (.slice p' (kids.length + 1) c') (kids ++ [d]) := by
  obtain ⟨v', w', hrun, hrow, hG⟩ := hd.push hn h.size hq
  have ho := hd.1
  have h' := h.grow ho ty_rd.2.2.2.1 ty_nd.2.2.2 hG
  have hkk : KyRow w' w0.heap.size kv ks := by
    obtain ⟨cs, h1, h2, h3⟩ := hi
    exact ⟨cs, h1, owns_grows h2 ho ty_ne.2.2.2.2.2.2.2 hG, fun j hj hj' => ⟨owns_grows (h3 j hj hj').1 ho ty_ne.2.2.2.2.2.2.1 hG, (h3 j hj hj').2⟩⟩
  obtain ⟨p', c', rfl, -⟩ := hrow.at_
  rw [List.length_append] at hrun hrow
  exact ⟨p', c', w', hrun, h'.nd, h'.set 3 _, hkk.onlyT h'.nd ⟨ty_nd.1, ty_nd.2.2.1⟩ (Only.set nb 3 w' _), hrow.onlyT h'.nd ty_nd.2.2.2 (Only.set nb 3 w' _)⟩
end
end Go.Proofs.YtdbgihpognfhdaaGreat.Sl.Nd
