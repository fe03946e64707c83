/- Nodes in a program: a leaf laid as bytes, by the document. -/
import Derived.Test.YtdbgihpognfhdaaGreatMTrL
import Derived.Test.YtdbgihpognfhdaaGreatMTxtJ
import Derived.Deep.RegionHeld3
import Derived.Test.YtdbgihpognfhdaaGreatMNdN
import Derived.Test.YtdbgihpognfhdaaGreatMRefN
import Derived.Test.YtdbgihpognfhdaaGreatMDskA
namespace Go.Proofs.YtdbgihpognfhdaaGreat.Sl.Nd
open Go Go.RowKit Go.By
def PnTold (w : World) (n : Nd) (z : Ending) (w' : World) : Prop := ∃ v', z = .returned v' ∧ OwnM w' w.heap.size v' (putNd n) ∧ Below w.heap.size w w'
def PtRel (B : Nat) (w1 : World) (M : Nat → List Nat) (most : Nat) (x i : Value) (W : World) : Prop :=
  ∃ k : Nat, k ≤ most ∧ i = .int .i64 k ∧ W.ownsRow B 5 1 x (M k).length (cellsOf (M k)) ∧ Below B w1 W
theorem row_two (w : World) (e : TypeId) (a b : Nat) : (w.alloc (.cells #[.int .u8 (a : Nat), .int .u8 (b : Nat)] e)).ownsRow w.heap.size e 1 (.slice (some ⟨w.heap.size, 0, none⟩) 2 2) [a, b].length (cellsOf [a, b]) :=
  ⟨rfl, .inr ⟨w.heap.size, 2, #[.int .u8 (a : Nat), .int .u8 (b : Nat)], rfl, Nat.le_refl _, heap_alloc_new w _, Nat.le_refl _, by decide, rfl, rfl⟩⟩
def lfOf (its : List NIt) (k : Nat) : List Nat := 76 :: its.length :: (its.take k).flatMap itOf
theorem lfOf_next {its : List NIt} {k : Nat} (h : k < its.length) : lfOf its (k + 1) = lfOf its k ++ txt its[k].k ++ txt its[k].v := by
  unfold lfOf
  rw [List.take_succ_eq_append_getElem h, List.flatMap_append]
  simp [itOf]
theorem lfOf_all {n : Nd} (hm : mayNd n = true) (hl : n.leaf = true) : lfOf n.its n.its.length = putNd n := by
  unfold lfOf putNd
  rw [if_pos hm, ndOf_lf hl, List.take_length]
theorem lfOf_len {its : List NIt} (h8 : its.length ≤ 8) (hm : ∀ i ∈ its, mayIt i = true) : ∀ {k : Nat}, k ≤ its.length → (lfOf its k).length ≤ 2 + k * 162
  | 0, _ => by simp [lfOf]
  | k + 1, hk => by
    have := lfOf_len h8 hm (k := k) (by omega)
    have hi := hm _ (List.getElem_mem (show k < its.length by omega))
    rw [mayIt_iff, mayK_iff] at hi
    rw [lfOf_next (by omega), List.length_append, List.length_append, txt_length, txt_length]
    omega
set_option maxRecDepth 100000 in
set_option maxHeartbeats 4000000 in
theorem refPut_leaf {w : World} {v : Value} {n : Nd} {pi pk pd : Option Addr} {ci ck cd : Nat} (h : IsNd w v n pi ci pk ck pd cd) (hlf : n.leaf = true) (hsm : n.ks.length + n.kids.length ≤ 1152921504606846976) :
    Calls Tryz.prog 11 #[v] w (PnTold w n) := by
  have hv := h.val
  subst hv
  obtain ⟨W, hW⟩ : ∃ W, W = w.alloc (.cells #[.bool n.leaf, .slice pi n.its.length ci, .slice pk n.ks.length ck, .slice pd n.kids.length cd] 38) := ⟨_, rfl⟩
  have hb : Below w.heap.size w W := by rw [hW]; exact (Below.refl w.heap.size w).alloc (Nat.le_refl _) _
  have hx : NdAt W w.heap.size n pi ci pk ck pd cd := by rw [hW]; exact NdAt.new ..
  have HMAY := Lib.hid (refMay_leaf (h.below hb) hlf hsm)
  have HI := Lib.hid (h.its.below hb)
  have HB := Lib.hid hb; have HW := Lib.hid hW; have HNA := Lib.hid hx
  obtain ⟨n0, n1, n2, n3⟩ := hx.cells
  have hl1 := h.its.le; have hl2 := h.its.most
  unfold maxLen at hl2
  have HF : Hid (∀ v' W', OwnM W' w.heap.size v' (putNd n) → Below w.heap.size w W' → PnTold w n (.returned v') W') := fun v' W' h1 h2 => ⟨v', rfl, h1, h2⟩
  have HLF := Lib.hid hlf
  obtain ⟨LL, hLL⟩ : ∃ x, x = n.its.length := ⟨_, rfl⟩
  rw [hlf] at n0 HW HMAY ⊢
  rw [← hLL] at n1 HW HMAY ⊢
  have HL := Lib.hid hLL
  clear h hW hb hx hl1 hl2 hsm hLL hlf
  go_enter Tryz.func11, Tryz.ntmps11
  go_wp2_with fail
  rw [← HW.out]
  refine HMAY.out.mono ?_
  rintro z w1 ⟨rfl, hb1⟩
  have hn1 := hb1.block _ HNA.out.lt |>.trans HNA.out
  have HB1 := Lib.hid hb1
  cases hm : mayNd n with
  | false =>
    have HR := Lib.hid (HF.out (.slice none 0 0) w1 (by unfold putNd; rw [hm]; exact .inl ⟨rfl, rfl⟩) (HB.out.trans (hb1.mono HB.out.size)))
    clear hn1 hb1
    go_wp2
    go_ret
    exact HR.out
  | true =>
    have hmm := hm
    unfold mayNd at hmm
    rw [if_pos HLF.out, mayLf_iff] at hmm
    obtain ⟨⟨h1, h8⟩, hmi, -⟩ := hmm
    have q0 := cells_of hn1 0
    have q1 := cells_of hn1 1
    simp only [List.getElem?_toArray, List.getElem?_cons_zero, List.getElem?_cons_succ] at q0 q1
    rw [HLF.out] at q0
    rw [← HL.out] at q1 h1 h8
    have q2 : (LL : Int) ≤ 8 := by omega
    have q3 : (0 : Int) ≤ LL := by omega
    have q4 : IntKind.u8.wrap (LL : Int) = LL := by rw [IntKind.wrap_u8]; omega
    have HLEN : Hid (∀ k, k ≤ n.its.length → (lfOf n.its k).length ≤ 2 + k * 162) := fun k hk => lfOf_len (by rw [← HL.out]; exact h8) hmi hk
    have hr := row_two w1 5 76 LL
    have HWW : w.heap.size < w1.heap.size := Nat.lt_of_lt_of_le HNA.out.lt hb1.size
    have H0 : Hid (PtRel w1.heap.size w1 (lfOf n.its) n.its.length (.slice (some ⟨w1.heap.size, 0, none⟩) 2 2) (.int .i64 (0 : Nat)) (w1.alloc (.cells #[.int .u8 (76 : Nat), .int .u8 (LL : Nat)] 5))) :=
      ⟨0, Nat.zero_le _, rfl, by
        have e : lfOf n.its 0 = [76, LL] := by unfold lfOf; rw [HL.out]; rfl
        rw [e]; exact hr, (Below.refl _ _).alloc (Nat.le_refl _) _⟩
    have HM := Lib.hid hm
    have H8 := Lib.hid h8
    have HCE : Hid (∀ w', Below w1.heap.size w1 w' → w'.cell? ⟨w.heap.size, 1, none⟩ = some (.slice pi LL ci)) := fun w' hb' => (hb'.cell (p := ⟨w.heap.size, 1, none⟩) HWW).trans q1
    have HMI := Lib.hid hmi
    clear hn1 hb1 hm hmi hr h1 h8
    go_wp2
    go_loopw [3, 4] (fun x i W' => PtRel w1.heap.size w1 (lfOf n.its) n.its.length x i W') (fun _ i _ => LL - (intOf i).toNat)
    case atStart => exact H0.out
    case round =>
      clear H0 q0 q1 q4
      obtain ⟨i, hi, rfl, ho, hB⟩ := hrel
      have m1 := HCE.out _ hB
      by_cases hlt : i < LL
      · have hil : i < n.its.length := by rw [← HL.out]; exact hlt
        have hii : (i : Int) < LL := by omega
        have hi0 : (0 : Int) ≤ i := by omega
        obtain ⟨lb, lo, rfl, hat⟩ := HI.out.some (by omega)
        obtain ⟨cs, hc, va, vb, rfl, ha, hb⟩ := hat i hil
        have hmit := HMI.out _ (List.getElem_mem hil)
        rw [mayIt_iff, mayK_iff] at hmit
        obtain ⟨⟨hk1, hk40⟩, hv120⟩ := hmit
        have hnext := lfOf_next hil
        have hlen := HLEN.out i (by omega)
        obtain ⟨KK, hKK⟩ : ∃ x, x = n.its[i].k := ⟨_, rfl⟩
        obtain ⟨VV, hVV⟩ : ∃ x, x = n.its[i].v := ⟨_, rfl⟩
        rw [← hKK] at ha hk40 hnext hk1
        rw [← hVV] at hb hv120 hnext
        have HY1 : Hid (∀ w', Below w1.heap.size w1 w' → Bytes w' va KK) := fun w' hb' => (ha.below (HB1.out.trans (hb'.mono HB1.out.size)))
        have HY2 : Hid (∀ w', Below w1.heap.size w1 w' → Bytes w' vb VV) := fun w' hb' => (hb.below (HB1.out.trans (hb'.mono HB1.out.size)))
        have hkeep : ∀ w', Below w1.heap.size w1 w' → w'.cell? ⟨w.heap.size, 1, none⟩ = some (.slice (some ⟨lb, lo, none⟩) LL ci) ∧ w'.cell? ⟨lb, lo + i * 2, none⟩ = some va ∧ w'.cell? ⟨lb, lo + i * 2 + 1, none⟩ = some vb ∧
            (convert 26 9 va).run Tryz.prog w' = .ok (.string (strOf KK)) w' ∧ (convert 26 9 vb).run Tryz.prog w' = .ok (.string (strOf VV)) w' := fun w' hb' => by
          have q := (hc.below (HB1.out.trans (hb'.mono HB1.out.size))).two
          exact ⟨HCE.out w' hb', q.1, q.2, (HY1.out w' hb').toString (P := Tryz.prog) byT (d := 9) (by kernel_rfl), (HY2.out w' hb').toString (P := Tryz.prog) byT (d := 9) (by kernel_rfl)⟩
        have HK := Lib.hid hkeep
        obtain ⟨qa, ca, rfl, -⟩ := ha.any
        obtain ⟨qb, cb, rfl, -⟩ := hb.any
        have hsk : natsOf (strOf KK) = KK := natsOf_strOf ha.small
        have hsv : natsOf (strOf VV) = VV := natsOf_strOf hb.small
        obtain ⟨M, hM⟩ : ∃ M, M = lfOf n.its i := ⟨_, rfl⟩
        rw [← hM] at ho hnext hlen
        obtain ⟨lk, hlk⟩ : ∃ x, x = KK.length := ⟨_, rfl⟩
        obtain ⟨lv, hlv⟩ : ∃ x, x = VV.length := ⟨_, rfl⟩
        rw [← hlk, ← hlv] at HK
        have hw1 : w1.heap.size ≤ wr.heap.size := hB.size
        have HT1 : Hid (∀ W', W'.ownsRow w1.heap.size 5 1 u3 M.length (cellsOf M) ∧ w1.heap.size ≤ W'.heap.size → Calls Tryz.prog 31 #[u3, .string (strOf KK)] W' fun e W2 => ∃ v', e = .returned v' ∧ W2.ownsRow w1.heap.size 5 1 v' (M ++ txt KK).length (cellsOf (M ++ txt KK)) ∧ Below w1.heap.size W' W2) := by
          intro W' h
          have := refText_any u3 M (strOf KK) w1.heap.size W' h.1 (by have := H8.out; omega) h.2 (by rw [← natsOf_length, hsk]; omega)
          rw [hsk] at this
          exact this
        have HT2 : Hid (∀ v5 W', W'.ownsRow w1.heap.size 5 1 v5 (M ++ txt KK).length (cellsOf (M ++ txt KK)) ∧ w1.heap.size ≤ W'.heap.size → Calls Tryz.prog 31 #[v5, .string (strOf VV)] W' fun e W2 => ∃ v', e = .returned v' ∧ W2.ownsRow w1.heap.size 5 1 v' (M ++ txt KK ++ txt VV).length (cellsOf (M ++ txt KK ++ txt VV)) ∧ Below w1.heap.size W' W2) := by
          intro v5 W' h
          have := refText_any v5 (M ++ txt KK) (strOf VV) w1.heap.size W' h.1 (by rw [List.length_append, txt_length]; have := H8.out; omega) h.2 (by rw [← natsOf_length, hsv]; omega)
          rw [hsv] at this
          exact this
        have HO := Lib.hid ho
        have HBW := Lib.hid hB
        have HLT := Lib.hid hlt
        have HNX : Hid (∀ x W', W'.ownsRow w1.heap.size 5 1 x (M ++ txt KK ++ txt VV).length (cellsOf (M ++ txt KK ++ txt VV)) → Below w1.heap.size w1 W' → PtRel w1.heap.size w1 (lfOf n.its) n.its.length x (.int .i64 (i + 1 : Nat)) W') :=
          fun x W' h1 h2 => ⟨i + 1, hil, rfl, by rw [hnext]; exact h1, h2⟩
        have hsz : w1.heap.size ≤ wr.drew.heap.size := hw1
        have HP := Lib.hid (And.intro (owns_below ho ((Below.refl _ _).drew)) hsz)
        clear hsz hw1 hkeep hat hc ha hb hKK hVV hnext hlen hk1 hk40 hv120 hsk hsv hM hlk hlv HY1 HY2 ho hB hi hil
        go_wp2_with fail
        go_region_held3 (fun w' => w'.cell? ⟨w.heap.size, 1, none⟩ = some (.slice (some ⟨lb, lo, none⟩) LL ci) ∧ w'.cell? ⟨lb, lo + i * 2, none⟩ = some (.slice qa lk ca) ∧ w'.cell? ⟨lb, lo + i * 2 + 1, none⟩ = some (.slice qb lv cb) ∧
            (convert 26 9 (.slice qa lk ca)).run Tryz.prog w' = .ok (.string (strOf KK)) w' ∧ (convert 26 9 (.slice qb lv cb)).run Tryz.prog w' = .ok (.string (strOf VV)) w') ((refine HK.out _ ?_; first | exact HB6.out | exact HB5.out | exact HBW.out.drew | exact HBW.out | assumption))
          (first
            | (go_at_call 31
               with_reducible refine (HT1.out _ HP.out).mono ?_
               rintro z w5 ⟨v5, rfl, ho, hb⟩
               have hbb : Below w1.heap.size w1 w5 := HBW.out.drew.trans hb
               have HB5 := Lib.hid hbb
               have HO5 := Lib.hid ho
               clear ho hb)
            | (go_at_call 31
               with_reducible refine (HT2.out _ _ ⟨HO5.out, HB5.out.size⟩).mono ?_
               rintro z w6 ⟨v6, rfl, ho, hb⟩
               have hbb : Below w1.heap.size w1 w6 := HB5.out.trans hb
               have HB6 := Lib.hid hbb
               have HO6 := Lib.hid ho
               clear ho hb))
        have HEND := Lib.hid (HNX.out _ _ HO6.out HB6.out)
        clear HNX
        go_wp2
        go_roundw
        case rel => exact HEND.out
        case measure => simp [intOf]; have := HLT.out; omega
      · have hii : ¬ (i : Int) < LL := by omega
        have hie : i = n.its.length := by have := HL.out; omega
        rw [hie, lfOf_all HM.out HLF.out] at ho
        have HR := Lib.hid (HF.out _ wr (OwnM.of_owns (owns_base ho (Nat.le_of_lt HWW))) (HB.out.trans ((HB1.out.trans (hB.mono HB1.out.size)).mono HB.out.size)))
        clear ho hi hB hlt
        go_wp2
        go_ret
        exact HR.out
end Go.Proofs.YtdbgihpognfhdaaGreat.Sl.Nd
/- Nodes in a program: a node that is no leaf laid as bytes, by the document. -/
namespace Go.Proofs.YtdbgihpognfhdaaGreat.Sl.Nd
open Go Go.RowKit Go.By
theorem owns_slc {w : World} {B : Nat} {e : TypeId} {v : Value} {n : Nat} {xs : List Value} (h : w.ownsRow B e 1 v n xs) : ∃ p c, v = .slice p n c := by
  obtain ⟨_, ⟨rfl, rfl⟩ | ⟨_, c, _, rfl, _⟩⟩ := h
  · exact ⟨_, _, rfl⟩
  · exact ⟨_, _, rfl⟩
structure Ph (W cur : World) (v : Value) (M : List Nat) (r1 : Value) (l1 : List Nat) (r2 : Value) (l2 : List Nat) : Prop where
  below : Below W.heap.size W cur
  own : cur.ownsRow W.heap.size 5 1 v M.length (cellsOf M)
  y1 : Bytes cur r1 l1
  y2 : Bytes cur r2 l2
  s2 : l2 ≠ [] → v.ownBlock ≠ r2.ownBlock
theorem ph_next {W cur w' : World} {v r1 r2 : Value} {M l1 l2 : List Nat} (h : Ph W cur v M r1 l1 r2 l2) (hb : Below cur.heap.size cur w') : Ph W w' v M r1 l1 r2 l2 :=
  ⟨h.below.trans (hb.mono h.below.size), owns_below h.own hb, h.y1.below hb, h.y2.below hb, h.s2⟩
theorem ph_call1 {W cur : World} {v r1 r2 : Value} {M l1 l2 : List Nat} (q : Nat) (hq : q < 18446744073709551616) (h : Ph W cur v M r1 l1 r2 l2) :
    Calls Tryz.prog 32 #[.int .u64 q, .int .i64 8] cur fun e w' => ∃ p c, e = .returned (.slice p 8 c) ∧ Ph W w' v M (.slice p 8 c) (highOf q 8) r2 l2 := by
  refine (high_any q 8 cur hq (by omega)).mono ?_
  rintro e w' ⟨v', rfl, ho, hb⟩
  obtain ⟨p, c, rfl⟩ := owns_slc ho
  have h2 := ph_next h hb
  exact ⟨p, c, rfl, h2.below, h2.own, Bytes.of_owns ho (highOf_small _ _) (by rw [highOf_length]; decide), h2.y2, h2.s2⟩
theorem ph_call2 {W cur : World} {v r1 r2 : Value} {M l1 l2 : List Nat} (q : Nat) (hq : q < 18446744073709551616) (h : Ph W cur v M r1 l1 r2 l2) :
    Calls Tryz.prog 32 #[.int .u64 q, .int .i64 8] cur fun e w' => ∃ p c, e = .returned (.slice p 8 c) ∧ Ph W w' v M r1 l1 (.slice p 8 c) (highOf q 8) := by
  refine (high_any q 8 cur hq (by omega)).mono ?_
  rintro e w' ⟨v', rfl, ho, hb⟩
  obtain ⟨p, c, rfl⟩ := owns_slc ho
  have h2 := ph_next h hb
  refine ⟨p, c, rfl, h2.below, h2.own, h2.y1, Bytes.of_owns ho (highOf_small _ _) (by rw [highOf_length]; decide), fun _ e => ?_⟩
  cases hv : v.ownBlock with
  | none =>
    rw [hv] at e
    rcases ho.2 with ⟨_, h0⟩ | ⟨g, _, _, h1, _⟩
    · omega
    · rw [h1] at e; simp [Value.ownBlock] at e
  | some g =>
    rw [hv] at e
    have h3 := (h.own.lt g hv).2
    have h4 := (ho.lt g e.symm).1
    omega
theorem ph_append1 {W cur : World} {v r1 r2 : Value} {M l1 l2 : List Nat} (h : Ph W cur v M r1 l1 r2 l2) (hl : M.length + l1.length ≤ 1000000) :
    ∃ p' n' c' w', (Builtin.append_ #[26, 26] 26 #[v, r1]).run Tryz.prog cur = .ok (.slice p' n' c') w' ∧ Ph W w' (.slice p' n' c') (M ++ l1) (.slice none 0 0) [] r2 l2 := by
  obtain ⟨i, hi, hz, hz1, hz2⟩ := info_parts (byT).info
  have hr : ∃ v' w', (Builtin.append_ #[26, 26] 26 #[v, r1]).run Tryz.prog cur = .ok v' w' ∧ w'.ownsRow W.heap.size 5 1 v' (M.length + l1.length) (cellsOf M ++ cellsOf l1) ∧ cur.grownBy w' v.ownBlock ∧ (v'.ownBlock = v.ownBlock ∨ v'.ownBlock = some cur.heap.size) := by
    rcases h.y1.out with ⟨rfl, rfl⟩ | ⟨ad, rfl, rfl⟩ | ⟨b, off, cap, rfl, hcap, hc⟩
    · exact ⟨v, cur, run_append_owned_none (P := Tryz.prog) (w := cur) W.heap.size 26 26 5 i 1 byT.slice hi v _ _ h.own, by simpa [cellsOf] using h.own, World.grownBy.refl _ _, .inl rfl⟩
    · obtain ⟨v', w', r1, r2, r3, _, r5⟩ := run_append_own_at (P := Tryz.prog) cur W.heap.size 26 26 5 i (.int .u8 0) 1 1 byT.slice hi hz hz1 hz2 rfl (by omega) v _ _ h.own ad 0 0 [] rfl (by simp) (by simp) (by simp at hl; unfold maxLen; omega) (by simp at hl; omega) h.below.size
      exact ⟨v', w', r1, r2, r3, r5⟩
    · obtain ⟨v', w', r1, r2, r3, _, r5⟩ := run_append_own_at (P := Tryz.prog) cur W.heap.size 26 26 5 i (.int .u8 0) 1 1 byT.slice hi hz hz1 hz2 rfl (by omega) v _ _ h.own ⟨b, off, none⟩ l1.length cap (cellsOf l1) (by rw [cellsOf_length, Nat.mul_one]) (by
        intro j u hu
        obtain ⟨hj, rfl⟩ := cellsOf_at hu
        rw [Addr.add_lit]; exact hc j hj) (cellsOf_one l1) (by unfold maxLen; omega) (by omega) h.below.size
      exact ⟨v', w', r1, r2, r3, r5⟩
  obtain ⟨v', w', hrun, ho, hg, hn⟩ := hr
  have ho' : w'.ownsRow W.heap.size 5 1 v' (M ++ l1).length (cellsOf (M ++ l1)) := by rw [List.length_append, cellsOf_append]; exact ho
  obtain ⟨p', c', rfl⟩ := owns_slc ho'
  have hbl : Below W.heap.size W w' := h.below.grown hg h.below.size (fun j hj => (h.own.lt j hj).1)
  have hy2 : Bytes w' r2 l2 := by
    refine ⟨?_, h.y2.small, h.y2.short⟩
    rcases h.y2.out with h1 | h1 | ⟨b, o, c, rfl, hc, hcell⟩
    · exact .inl h1
    · exact .inr (.inl h1)
    · refine .inr (.inr ⟨b, o, c, rfl, hc, fun i hi => hg.cell (hcell i hi) (fun e => ?_)⟩)
      exact h.s2 (by intro e0; subst e0; exact absurd hi (Nat.not_lt_zero _)) (by rw [← e]; rfl)
  refine ⟨_, _, _, w', hrun, hbl, ho', Bytes.nil _, hy2, fun hl2 e => ?_⟩
  · rcases hn with h1 | h1
    · exact h.s2 hl2 (by rw [← h1]; exact e)
    · rcases h.y2.out with ⟨_, h2⟩ | ⟨a, _, h2⟩ | ⟨b, o, c, h2, hc, hcell⟩
      · exact hl2 h2
      · exact hl2 h2
      · have hlt : b < cur.heap.size := block_lt_of_cell (hcell 0 (List.length_pos_iff.2 hl2))
        rw [h1, h2] at e
        have he : cur.heap.size = b := Option.some.inj e
        omega
theorem ph_append2 {W cur : World} {v r1 r2 : Value} {M l1 l2 : List Nat} (h : Ph W cur v M r1 l1 r2 l2) (hl : M.length + l2.length ≤ 1000000) :
    ∃ p' n' c' w', (Builtin.append_ #[26, 26] 26 #[v, r2]).run Tryz.prog cur = .ok (.slice p' n' c') w' ∧ Ph W w' (.slice p' n' c') (M ++ l2) (.slice none 0 0) [] (.slice none 0 0) [] := by
  obtain ⟨p', n', c', w', h1, h2⟩ := ph_append1 (⟨h.below, h.own, h.y2, Bytes.nil _, fun e => absurd rfl e⟩ : Ph W cur v M r2 l2 (.slice none 0 0) []) hl
  exact ⟨p', n', c', w', h1, h2⟩
def inOf (n : Nd) (k : Nat) : List Nat := 78 :: n.kids.length :: ((n.ks.zip n.kids).take k).flatMap kdOf
theorem inOf_next {n : Nd} {k : Nat} (h1 : k < n.ks.length) (h2 : k < n.kids.length) : inOf n (k + 1) = inOf n k ++ txt n.ks[k] ++ highOf n.kids[k].off.toNat 8 ++ highOf n.kids[k].ct 8 := by
  have hz : k < (n.ks.zip n.kids).length := by rw [List.length_zip]; omega
  unfold inOf
  rw [List.take_succ_eq_append_getElem hz, List.flatMap_append, List.getElem_zip]
  simp [kdOf]
theorem inOf_all {n : Nd} (hm : mayNd n = true) (hl : n.leaf = false) (he : n.ks.length = n.kids.length) : inOf n n.kids.length = putNd n := by
  unfold inOf putNd
  rw [if_pos hm, ndOf_in hl, List.take_of_length_le (by rw [List.length_zip]; omega)]
theorem inOf_len {n : Nd} (he : n.ks.length = n.kids.length) (hm : ∀ k ∈ n.ks, mayK k = true) : ∀ {k : Nat}, k ≤ n.kids.length → (inOf n k).length ≤ 2 + k * 57
  | 0, _ => by simp [inOf]
  | k + 1, hk => by
    have := inOf_len he hm (k := k) (by omega)
    have hi := hm _ (List.getElem_mem (show k < n.ks.length by omega))
    rw [mayK_iff] at hi
    rw [inOf_next (by omega) (by omega), List.length_append, List.length_append, List.length_append, txt_length, highOf_length, highOf_length]
    omega
set_option maxRecDepth 100000 in
set_option maxHeartbeats 8000000 in
theorem refPut_inner {w : World} {v : Value} {n : Nd} {pi pk pd : Option Addr} {ci ck cd : Nat} (h : IsNd w v n pi ci pk ck pd cd) (hlf : n.leaf = false)
    (HM : ∀ W, Below w.heap.size w W → Calls Tryz.prog 30 #[v] W (TruthTold W (mayNd n))) :
    Calls Tryz.prog 11 #[v] w (PnTold w n) := by
  have hv := h.val
  subst hv
  obtain ⟨W, hW⟩ : ∃ W, W = w.alloc (.cells #[.bool n.leaf, .slice pi n.its.length ci, .slice pk n.ks.length ck, .slice pd n.kids.length cd] 38) := ⟨_, rfl⟩
  have hb : Below w.heap.size w W := by rw [hW]; exact (Below.refl w.heap.size w).alloc (Nat.le_refl _) _
  have hx : NdAt W w.heap.size n pi ci pk ck pd cd := by rw [hW]; exact NdAt.new ..
  have HMAY := Lib.hid (HM W hb)
  have HI := Lib.hid (h.ks.below hb); have HQ := Lib.hid (h.kids.below hb)
  have HB := Lib.hid hb; have HW := Lib.hid hW; have HNA := Lib.hid hx
  obtain ⟨n0, n1, n2, n3⟩ := hx.cells
  have HF : Hid (∀ v' W', OwnM W' w.heap.size v' (putNd n) → Below w.heap.size w W' → PnTold w n (.returned v') W') := fun v' W' h1 h2 => ⟨v', rfl, h1, h2⟩
  have HLF := Lib.hid hlf
  obtain ⟨LL, hLL⟩ : ∃ x, x = n.kids.length := ⟨_, rfl⟩
  obtain ⟨LK, hLK⟩ : ∃ x, x = n.ks.length := ⟨_, rfl⟩
  rw [hlf] at n0 HW HMAY ⊢
  rw [← hLL] at n3 HW HMAY ⊢
  rw [← hLK] at n2 HW HMAY ⊢
  have HL := Lib.hid hLL; have HLK := Lib.hid hLK
  clear h hW hb hx hLL hLK hlf HM
  go_enter Tryz.func11, Tryz.ntmps11
  go_wp2_with fail
  rw [← HW.out]
  refine HMAY.out.mono ?_
  rintro z w1 ⟨rfl, hb1⟩
  have hn1 := hb1.block _ HNA.out.lt |>.trans HNA.out
  have HB1 := Lib.hid hb1
  cases hm : mayNd n with
  | false =>
    have HR := Lib.hid (HF.out (.slice none 0 0) w1 (by unfold putNd; rw [hm]; exact .inl ⟨rfl, rfl⟩) (HB.out.trans (hb1.mono HB.out.size)))
    clear hn1 hb1
    go_wp2
    go_ret
    exact HR.out
  | true =>
    have hmm := hm
    unfold mayNd at hmm
    rw [HLF.out, if_neg (by decide), mayIn_iff] at hmm
    obtain ⟨⟨h1, h8⟩, hkl, hmk, -, hmd, -⟩ := hmm
    have q0 := cells_of hn1 0
    have q1 := cells_of hn1 2
    have q1' := cells_of hn1 3
    simp only [List.getElem?_toArray, List.getElem?_cons_zero, List.getElem?_cons_succ] at q0 q1 q1'
    rw [HLF.out] at q0
    rw [← HL.out] at q1' h1 h8
    rw [← HLK.out] at q1
    have hLE : LK = LL := by rw [HLK.out, HL.out]; exact hkl
    have q2 : (LL : Int) ≤ 8 := by omega
    have q3 : (0 : Int) ≤ LL := by omega
    have q4 : IntKind.u8.wrap (LL : Int) = LL := by rw [IntKind.wrap_u8]; omega
    have HLEN : Hid (∀ k, k ≤ n.kids.length → (inOf n k).length ≤ 2 + k * 57) := fun k hk => inOf_len hkl hmk hk
    have hr := row_two w1 5 78 LL
    have HWW : w.heap.size < w1.heap.size := Nat.lt_of_lt_of_le HNA.out.lt hb1.size
    have H0 : Hid (PtRel w1.heap.size w1 (inOf n) n.kids.length (.slice (some ⟨w1.heap.size, 0, none⟩) 2 2) (.int .i64 (0 : Nat)) (w1.alloc (.cells #[.int .u8 (78 : Nat), .int .u8 (LL : Nat)] 5))) :=
      ⟨0, Nat.zero_le _, rfl, by
        have e : inOf n 0 = [78, LL] := by unfold inOf; rw [HL.out]; rfl
        rw [e]; exact hr, (Below.refl _ _).alloc (Nat.le_refl _) _⟩
    have HM := Lib.hid hm
    have H8 := Lib.hid h8
    have HKL := Lib.hid hkl
    have HCE : Hid (∀ w', Below w1.heap.size w1 w' → w'.cell? ⟨w.heap.size, 2, none⟩ = some (.slice pk LK ck) ∧ w'.cell? ⟨w.heap.size, 3, none⟩ = some (.slice pd LL cd)) := fun w' hb' => ⟨(hb'.cell (p := ⟨w.heap.size, 2, none⟩) HWW).trans q1, (hb'.cell (p := ⟨w.heap.size, 3, none⟩) HWW).trans q1'⟩
    have HMK := Lib.hid hmk; have HMD := Lib.hid hmd
    subst hLE
    clear hn1 hb1 hm hmk hmd hr h1 h8 hkl
    go_wp2
    go_loopw [5, 6] (fun x i W' => PtRel w1.heap.size w1 (inOf n) n.kids.length x i W') (fun _ i _ => LK - (intOf i).toNat)
    case atStart => exact H0.out
    case round =>
      clear H0 q0 q1 q1' q4
      obtain ⟨i, hi, rfl, ho, hB⟩ := hrel
      have m1 := (HCE.out _ hB).1
      have m2 := (HCE.out _ hB).2
      by_cases hlt : i < LK
      · have hil : i < n.kids.length := by rw [← HL.out]; exact hlt
        have hik : i < n.ks.length := by rw [← HLK.out]; exact hlt
        have hii : (i : Int) < LK := by omega
        have hi0 : (0 : Int) ≤ i := by omega
        obtain ⟨kb, ko, rfl, hat⟩ := HI.out.some (by omega)
        obtain ⟨cs, hc, va, rfl, ha⟩ := hat i hik
        obtain ⟨lb, lo, rfl, hatd⟩ := HQ.out.some (by omega)
        obtain ⟨csd, hcd, rfl, hD1, hD2⟩ := hatd i hil
        have hmk' := HMK.out _ (List.getElem_mem hik)
        have hmd' := HMD.out _ (List.getElem_mem hil)
        rw [mayK_iff] at hmk'
        rw [mayKd_iff] at hmd'
        obtain ⟨hk1, hk40⟩ := hmk'
        obtain ⟨hd1, -, hd2⟩ := hmd'
        have hnext := inOf_next hik hil
        have hlen := HLEN.out i (by omega)
        obtain ⟨KK, hKK⟩ : ∃ x, x = n.ks[i] := ⟨_, rfl⟩
        obtain ⟨DD, hDD⟩ : ∃ x, x = n.kids[i] := ⟨_, rfl⟩
        rw [← hKK] at ha hk40 hnext hk1
        rw [← hDD] at hnext hd1 hd2 hD1 hD2 hcd
        obtain ⟨OF, C⟩ := DD
        dsimp only at hnext hd1 hd2 hD1 hD2 hcd
        obtain ⟨q, rfl⟩ : ∃ q : Nat, OF = q := ⟨OF.toNat, by omega⟩
        rw [Int.toNat_natCast] at hnext
        have HY1 : Hid (∀ w', Below w1.heap.size w1 w' → Bytes w' va KK) := fun w' hb' => (ha.below (HB1.out.trans (hb'.mono HB1.out.size)))
        have hkeep : ∀ w', Below w1.heap.size w1 w' → w'.cell? ⟨w.heap.size, 3, none⟩ = some (.slice (some ⟨lb, lo, none⟩) LK cd) ∧ w'.cell? ⟨lb, lo + i * 2, none⟩ = some (.int .i64 (q : Nat)) ∧ w'.cell? ⟨lb, lo + i * 2 + 1, none⟩ = some (.int .u64 (C : Nat)) := fun w' hb' => by
          have q := (hcd.below (HB1.out.trans (hb'.mono HB1.out.size))).two
          exact ⟨(HCE.out w' hb').2, q.1, q.2⟩
        have HK := Lib.hid hkeep
        have hkc := (hc.below (HB1.out.trans (hB.mono HB1.out.size))).one
        simp only [KBytes, Nat.mul_one] at hkc
        have hcv := (HY1.out wr hB).toString (P := Tryz.prog) byT (d := 9) (by kernel_rfl)
        obtain ⟨qa, ca, rfl, -⟩ := ha.any
        have hsk : natsOf (strOf KK) = KK := natsOf_strOf ha.small
        obtain ⟨M, hM⟩ : ∃ M, M = inOf n i := ⟨_, rfl⟩
        rw [← hM] at ho hnext hlen
        have HT1 : Hid (Calls Tryz.prog 31 #[u5, .string (strOf KK)] wr fun e W2 => ∃ v', e = .returned v' ∧ W2.ownsRow w1.heap.size 5 1 v' (M ++ txt KK).length (cellsOf (M ++ txt KK)) ∧ Below w1.heap.size wr W2) := by
          have := refText_any u5 M (strOf KK) w1.heap.size wr ho (by have := H8.out; omega) hB.size (by rw [← natsOf_length, hsk]; omega)
          rw [hsk] at this
          exact this
        have HBW := Lib.hid hB
        have HLT := Lib.hid hlt
        obtain ⟨M2, hM2⟩ : ∃ M2, M2 = M ++ txt KK := ⟨_, rfl⟩
        rw [← hM2] at HT1 hnext
        have HML : Hid (M2.length ≤ 100000) := by unfold Hid; rw [hM2, List.length_append, txt_length]; have := H8.out; omega
        have HNX : Hid (∀ x W', W'.ownsRow w1.heap.size 5 1 x (M2 ++ highOf q 8 ++ highOf C 8).length (cellsOf (M2 ++ highOf q 8 ++ highOf C 8)) → Below w1.heap.size w1 W' → PtRel w1.heap.size w1 (inOf n) n.kids.length x (.int .i64 (i + 1 : Nat)) W') :=
          fun x W' h1 h2 => ⟨i + 1, hil, rfl, by rw [hnext]; exact h1, h2⟩
        obtain ⟨lk, hlk⟩ : ∃ x, x = KK.length := ⟨_, rfl⟩
        rw [← hlk] at hkc hcv
        have HQ1 : Hid (q < 18446744073709551616) := by unfold Hid; omega
        have HC1 : Hid (C < 18446744073709551616) := by unfold Hid; omega
        have hwq : IntKind.u64.wrap (q : Int) = q := by rw [IntKind.wrap_u64]; omega
        clear hkeep hat hatd hc hcd ha hKK hDD hnext hlen hk1 hk40 hd1 hd2 hD1 hD2 hsk hM hM2 hlk HY1 ho hB hi hil hik
        go_wp2_with fail
        refine HT1.out.mono ?_
        rintro z w5 ⟨v5, rfl, ho5, hb5⟩
        obtain ⟨px, cx, rfl⟩ := owns_slc ho5
        have hb5' : Below w1.heap.size w1 w5 := HBW.out.trans hb5
        have hPH : Ph w1 w5.drew (.slice px M2.length cx) M2 (.slice none 0 0) [] (.slice none 0 0) [] := ⟨hb5'.drew, owns_below ho5 ((Below.refl _ _).drew), Bytes.nil _, Bytes.nil _, fun e => absurd rfl e⟩
        have HPH := Lib.hid hPH
        have g := HK.out _ hPH.below
        obtain ⟨g0, g1, g2⟩ := g
        clear hPH ho5 hb5 hb5' m1 m2 hkc hcv
        generalize hLM : M2.length = LM at *
        have HLM := Lib.hid hLM
        clear hLM
        go_wp2_with fail
        have HL1 : Hid (M2.length + (highOf q 8).length ≤ 1000000) := by unfold Hid; rw [highOf_length]; have := HML.out; have := HLM.out; omega
        have HL2 : Hid ((M2 ++ highOf q 8).length + (highOf C 8).length ≤ 1000000) := by unfold Hid; rw [List.length_append, highOf_length, highOf_length]; have := HML.out; have := HLM.out; omega
        have hph0 := HPH.out
        clear HPH HML HLM
        go_region_law (first
          | (go_simp; go_at_call 32; with_reducible refine (ph_call1 q HQ1.out (by assumption)).mono ?_; rintro e w5 ⟨p5, x5, rfl, hph5⟩; obtain ⟨g50, g51, g52⟩ := HK.out _ hph5.below)
          | (go_simp; go_at_call 32; with_reducible refine (ph_call2 C HC1.out (by assumption)).mono ?_; rintro e w6 ⟨p6, x6, rfl, hph6⟩; obtain ⟨g60, g61, g62⟩ := HK.out _ hph6.below)
          | (obtain ⟨p7, n7, x7, w7, hrun7, hph7⟩ := ph_append1 (v := .slice px LM cx) (r1 := .slice p5 8 x5) (M := M2) (l1 := highOf q 8) (by assumption) HL1.out; refine step_append_run rfl (.tmp 62) (.tmp 70) 26 26 rfl (.slice px LM cx) (.slice p5 8 x5) rfl rfl (.slice p7 n7 x7) w7 hrun7 ?_; clear hrun7; obtain ⟨g70, g71, g72⟩ := HK.out _ hph7.below)
          | (obtain ⟨p8, n8, x8, w8, hrun8, hph8⟩ := ph_append2 (v := .slice p7 n7 x7) (r2 := .slice p6 8 x6) (M := M2 ++ highOf q 8) (l2 := highOf C 8) (by assumption) HL2.out; refine step_append_run rfl (.tmp 71) (.tmp 78) 26 26 rfl (.slice p7 n7 x7) (.slice p6 8 x6) rfl rfl (.slice p8 n8 x8) w8 hrun8 ?_; clear hrun8))
        all_goals
          have HEND := Lib.hid (HNX.out _ _ hph8.own hph8.below)
          clear HNX hph8 hph7 hph6 hph5 hph0
          go_wp2
          go_roundw
          case rel => exact HEND.out
          case measure => simp [intOf]; have := HLT.out; omega
      · have hii : ¬ (i : Int) < LK := by omega
        have hie : i = n.kids.length := by have := HL.out; omega
        rw [hie, inOf_all HM.out HLF.out HKL.out] at ho
        have HR := Lib.hid (HF.out _ wr (OwnM.of_owns (owns_base ho (Nat.le_of_lt HWW))) (HB.out.trans ((HB1.out.trans (hB.mono HB1.out.size)).mono HB.out.size)))
        clear ho hi hB hlt
        go_wp2
        go_ret
        exact HR.out
end Go.Proofs.YtdbgihpognfhdaaGreat.Sl.Nd
/- Nodes in a program: which may be, and how one is laid, by the document: whole. -/
namespace Go.Proofs.YtdbgihpognfhdaaGreat.Sl.Nd
open Go Go.RowKit Go.By
theorem refMay_any {w : World} {v : Value} {n : Nd} {pi pk pd : Option Addr} {ci ck cd : Nat} (h : IsNd w v n pi ci pk ck pd cd) (hsm : n.leaf = true → n.ks.length + n.kids.length ≤ 1152921504606846976) :
    Calls Tryz.prog 30 #[v] w (TruthTold w (mayNd n)) := by
  cases hl : n.leaf with
  | true => exact refMay_leaf h hl (hsm hl)
  | false => exact refMay_inner h hl
theorem refPut_any {w : World} {v : Value} {n : Nd} {pi pk pd : Option Addr} {ci ck cd : Nat} (h : IsNd w v n pi ci pk ck pd cd) (hsm : n.leaf = true → n.ks.length + n.kids.length ≤ 1152921504606846976) :
    Calls Tryz.prog 11 #[v] w (PnTold w n) := by
  cases hl : n.leaf with
  | true => exact refPut_leaf h hl (hsm hl)
  | false => exact refPut_inner h hl fun W hb => refMay_inner (h.below hb) hl
end Go.Proofs.YtdbgihpognfhdaaGreat.Sl.Nd
