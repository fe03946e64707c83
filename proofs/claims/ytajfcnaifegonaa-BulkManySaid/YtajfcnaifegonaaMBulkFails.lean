/- Rows made trees, in a program: the law BulkMany. -/
import Derived.Test.YtajfcnaifegonaaMBkT
import Derived.Test.YtajfcnaifegonaaMDcT
import Derived.Test.YtajfcnaifegonaaMTrV
import Derived.Test.YtajfcnaifegonaaMSmI
import Derived.Test.YtajfcnaifegonaaRows
import Derived.Test.YtajfcnaifegonaaMSlA
namespace Go.Proofs.Ytajfcnaifegonaa.Sl.Nd
open Go Go.RowKit Go.By
section
variable {R : Int} {C : List Nat} {lf : Nat} {W : World} {g a : Nat} {own : Own} {b : Nat} {its : List NIt} {rest : List (List KE)} {Fo : List Nat} {w w' : World}
theorem Open.grows (h : Open R C lf W g a own b its rest Fo w) {v v' : Value} (hg : Grows w w' v v') {e : TypeId} {s n : Nat} {xs : List Value} (hv : Tl w e s v n xs) (hT : 5 ≠ e) (hx : ∀ k, v.ownBlock = some k → own k = none ∧ k ≠ g ∧ W.heap.size ≤ k ∧ k ∉ Fo) : Open R C lf W g a own b its rest Fo w' := by
  obtain ⟨p, vi, kv, dv, up, F, h1, h2, rfl⟩ := h.st
  have ht : Turns g (blk v) own own w w' := Turns.grows hg (fun _ hk => hk) hv hT
  have kp : ∀ k, k ∈ b :: (p :: (blk vi ++ (blk kv ++ (blk dv ++ F)))) → k < w.heap.size → w'.heap[k]? = w.heap[k]? := fun k hk hl => hg.by_.block k hl (fun e => (hx k e.symm).2.2.2 hk)
  exact ⟨⟨p, vi, kv, dv, up, F, (kp b (by simp) (Array.getElem?_eq_some_iff.1 h1).1).trans h1,
    ⟨⟨(kp p (by simp) (Array.getElem?_eq_some_iff.1 h2.row.cells).1).trans h2.row.cells, h2.row.its.turns ht (fun k hk => kp k (by simp [mem_blk.2 hk]) (h2.row.its.choose_spec.2.1.lt hk)), h2.row.ks.turns ht (fun k hk => kp k (by simp [mem_blk.2 hk]) (h2.row.ks.choose_spec.2.1.lt hk)), h2.row.ds.stay (fun k hk => kp k (by simp [mem_blk.2 hk]) (h2.row.ds.1.lt hk))⟩,
      h2.ch.stay ht (fun k hk => kp k (by simp [hk]) (h2.ch.free k hk).2.2.2), h2.nd, fun k hk => ⟨(h2.fr k hk).1, (h2.fr k hk).2.1, (h2.fr k hk).2.2.1, Nat.lt_of_lt_of_le (h2.fr k hk).2.2.2 hg.by_.size⟩⟩, rfl⟩,
    h.fl.grown hg.by_ (fun k hk => ⟨(hx k hk).1, (hx k hk).2.1, (hx k hk).2.2.1⟩), h.bf⟩
theorem Open.lt (h : Open R C lf W g a own b its rest Fo w) : ∀ k ∈ Fo, k < w.heap.size := by
  obtain ⟨p, vi, kv, dv, up, F, h1, h2, rfl⟩ := h.st
  intro k hk
  rcases List.mem_cons.1 hk with rfl | hk
  · exact (Array.getElem?_eq_some_iff.1 h1).1
  · exact (h2.fr k hk).2.2.2
theorem TxtO.made {l : List Nat} {q : Nat} (h : w.heap[q]? = some (.cells (cellsOf l).toArray 5 (0, 0))) (hs : ∀ c ∈ l, c < 256) (hl : l.length ≤ maxLen) (ho : own q = none) : TxtO own w (.slice (some ⟨q, 0, none⟩) l.length l.length) l :=
  ⟨⟨⟨by simp [cellsOf], .inr ⟨q, l.length, _, rfl, Nat.zero_le _, h, Nat.le_refl _, hl, by simp [cellsOf], by simp only [cellsOf]; exact List.take_of_length_le (by simp)⟩⟩, hs, hl⟩, fun k hk => by cases hk; exact ho⟩
end
theorem Good.done {C : List Nat} {its : List NIt} {rest : List (List KE)} {all : List NIt} (h : Good C its rest all) (hn : all.length < 700) :
    ∃ C' d H, doneB C its rest = some (C', d) ∧ ((∀ c ∈ K3 zero128 zero128 C', c < 256) → docAll (K3 zero128 zero128 C') d.off d.ct = some (all, H)) ∧ (H < 2 ∨ 2 * 4 ^ (H - 1) ≤ all.length) ∧ H ≤ 6 ∧ C'.length ≤ 916300 ∧ d.ct < 18446744073709551616 := by
  by_cases h0 : all = []
  · have he := h.ok.all
    rw [h0] at he
    obtain ⟨-, hi⟩ := List.append_eq_nil_iff.1 he.symm
    have hr : rest = [] := Classical.byContradiction fun hr => by
      have := h.ok.many hr
      rw [hi] at this
      exact absurd this (by decide)
    have hC : C = [] := by
      have := h.ok.room
      rw [h0] at this
      exact List.length_eq_zero_iff.1 (by simp only [List.length_nil] at this; omega)
    subst h0 hi hr hC
    exact ⟨[], ⟨0, 0⟩, 0, doneB_none [], fun _ => rfl, .inl (by decide), by decide, by decide, by decide⟩
  · obtain ⟨C', d, H, h1, h2, h3, -⟩ := doneB_ok zZ_length h.ok h.fit (by omega) h0
    have hH : H ≤ 6 := by
      rcases h2.few with h4 | h4
      · omega
      · refine Classical.byContradiction fun h5 => ?_
        have : 4 ^ 6 ≤ 4 ^ (H - 1) := Nat.pow_le_pow_right (by decide) (by omega)
        omega
    refine ⟨C', d, H, h1, fun hK => ?_, h2.few.imp (fun e => by omega) id, hH, by omega, by have := h2.ct; omega⟩
    unfold docAll
    rw [if_neg (by have := h2.low; omega)]
    refine docT_fuel hK H _ _ _ _ _ 40 ?_ (by omega)
    have e : K3 zero128 zero128 C' = zZ ++ C' := by unfold K3 zZ; simp
    rw [e]
    exact h2.doc
def GotTold (w : World) (l : List NIt) (H : Nat) (e : Ending) (w' : World) : Prop :=
  ∃ p c, e = .returned (.tuple #[.slice p l.length c, .int .i64 (H : Nat), .int .i64 0]) ∧ Below w.heap.size w w' ∧ RowAt KItem w' p c l
theorem got_any {K : List Nat} (hK : ∀ c ∈ K, c < 256) (hs : K.length ≤ 1048576) (w : World) (pb : Option Addr) (cb : Nat) (off : Int) (ct : Nat) (hB : Bytes w (.slice pb K.length cb) K) (hct : ct < 18446744073709551616) {l : List NIt} {H : Nat} (hd : docAll K off ct = some (l, H)) :
    Calls Try.prog 11 #[.slice pb K.length cb, .agg #[.int .i64 off, .int .u64 (ct : Nat)]] w (GotTold w l H) := by
  refine (refTree_any hK hs w pb cb off ct hB hct).mono ?_
  rintro e w' ⟨hb, (⟨h, _⟩ | ⟨l', h', p, c, h, rfl, hr⟩)⟩
  · rw [hd] at h
    cases h
  · rw [hd] at h
    cases h
    obtain ⟨p', c', e, hrow⟩ := ItRow.at_ hr
    cases e
    exact ⟨p, c, rfl, hb, hrow⟩
theorem ItT.later {own : Own} {g : Nat} {w5 w6 w7 wx : World} {p : Option Addr} {c : Nat} {its : List NIt} (h : ItT own w5 (.slice p its.length c) its) (hx : Below w5.heap.size w5 wx) (hst : Steps own own wx w6) (hg : ∃ c, wx.heap[g]? = some (.cells c 76 (0, 0))) (h7 : Below w6.heap.size w6 w7) (ho : ∀ j, (Value.slice p its.length c).ownBlock = some j → own j = none) : RowAt KItem w7 p c its := by
  have hl : ∀ j, (Value.slice p its.length c).ownBlock = some j → j < w5.heap.size := fun j hj => h.choose_spec.2.1.lt hj
  have h1 := h.turns (Turns.below (g := g) (F := []) hx) (fun j hj => hx.block _ (hl j hj))
  obtain ⟨cg, hcg⟩ := hg
  have h2 := h1.turns (Turns.moves (F := []) (hst.moves g) hcg (by decide)) (fun j hj => hst.block j (by have := hl j hj; have := hx.size; omega) (.inl (ho j hj)))
  have h3 := h2.turns (Turns.below (g := g) (F := []) h7) (fun j hj => h7.block _ (h2.choose_spec.2.1.lt hj))
  obtain ⟨p', c', e, hr⟩ := h3.row
  cases e
  exact hr
def BmDeep (w7 : World) (H : Nat) (m j : Value) (wr : World) : Prop :=
  w7 = wr ∧ ∃ t : Nat, 1 ≤ t ∧ (t ≤ H ∨ t = 1) ∧ j = .int .i64 t ∧ m = .int .i64 (4 ^ (t - 1) : Nat)
def BmLoop (w1 : World) (g a b N : Nat) (x i : Value) (wr : World) : Prop :=
  ∃ (k : Nat) (C : List Nat) (its : List NIt) (rest : List (List KE)) (Fo : List Nat) (own : Own), k ≤ N ∧ i = .int .i64 k ∧ Open 16777216 C 0 w1 g a own b its rest Fo wr ∧ Good C its rest (sqIt k) ∧ ItT own wr x (sqIt k) ∧ (∀ j, x.ownBlock = some j → own j = none ∧ j ≠ g ∧ w1.heap.size ≤ j ∧ j ∉ Fo)
set_option maxRecDepth 100000 in
set_option maxHeartbeats 4000000 in
theorem bulkMany_any (n : Nat) (_hn : n < 65536) (w : World) : Calls Try.prog 3 #[.int .u16 (n : Nat)] w fun e w' => e = .returned (.bool true) ∧ Below w.heap.size w w' := by
  obtain ⟨N, hN⟩ : ∃ N, N = n % 700 := ⟨_, rfl⟩
  have h700 : N < 700 := by rw [hN]; exact Nat.mod_lt _ (by decide)
  have hrem : (n : Int).tmod 700 = (N : Nat) := by rw [hN]; rfl
  have hw1 : IntKind.i64.wrap (N : Int) = N := by rw [IntKind.wrap_i64]; omega
  have HN := Lib.hid h700
  clear hN h700
  go_enter Try.func3, Try.ntmps3
  go_wp2_with fail
  refine (begun16_any w).mono ?_
  rintro e w1 ⟨rfl, hb1⟩
  have HB1 := Lib.hid hb1
  clear hb1
  go_wp2_with fail
  refine (new13_bk w1).mono ?_
  rintro e w2 ⟨a, g, own2, rfl, hf2⟩
  have HF2 := Lib.hid hf2
  clear hf2
  go_wp2_with fail
  refine (new_bk g w2).mono ?_
  rintro e w3 ⟨b, p, rfl, h31, h32, h33, h34, h35, h36⟩
  obtain ⟨Fo3, ho3⟩ : ∃ Fo3, Open 16777216 [] 0 w1 g a own2 b [] [] Fo3 w3 := ⟨_, open_new HF2.out h31 h32 h33 h34 h35 h36⟩
  have HL0 : Hid (BmLoop w1 g a b N (.slice none 0 0) (.int .i64 (0 : Nat)) w3) := ⟨0, [], [], [], Fo3, own2, Nat.zero_le _, rfl, ho3, Good.none, ItT.nil, fun j hj => by cases hj⟩
  clear ho3 h31 h32 h33 h34 h35 h36 HF2
  go_wp2
  go_loopw [8, 9] (fun x i W => BmLoop w1 g a b N x i W) (fun _ i _ => N - (intOf i).toNat)
  case atStart => exact HL0.out
  case round =>
    clear HL0
    rename World => wr
    obtain ⟨k, C, its, rest, Fo, own, hk, rfl, ho, hgd, hit, hfr⟩ := hrel
    obtain ⟨px, cx, rfl, -⟩ := hit.row
    have h7 := HN.out
    by_cases hlt : k < N
    · have hki : (k : Int) < N := by omega
      have hkm : ((k % 256 : Nat) : Int) = (k : Int) % 256 := by omega
      have hfit : Fit (sqIt k ++ [⟨highOf k 8, [k % 256]⟩]) := by rw [← sqIt_succ]; exact sqIt_fit (by omega)
      have hlen := sqIt_length k
      have HSQ := Lib.hid (seq_bk k (by omega) wr)
      have HO := Lib.hid ho; have HG := Lib.hid hgd; have HI := Lib.hid hit; have HFR := Lib.hid hfr; have HFIT := Lib.hid hfit; have HLT := Lib.hid hlt; have HLN := Lib.hid hlen
      rw [hlen]
      clear ho hgd hit hfr hfit hlt hk h7 hlen
      go_wp2_with fail
      refine HSQ.out.mono ?_
      rintro e w4 ⟨v4, rfl, hown, hb4⟩
      have HT4 : Hid (TxtO own w4 v4 (highOf k 8)) := TxtO.of_new hown (highOf_small _ _) (by rw [highOf_length]; decide) (fun j hj => HO.out.fl.new_none hj)
      obtain ⟨q4, c4, rfl, -⟩ := HT4.out.bytes.any
      obtain ⟨W5, hW5⟩ : ∃ W5, W5 = allocs w4 [.cells #[.int .u8 ((k : Int) % 256)] 5 (0, 0), .cells #[.slice q4 (highOf k 8).length c4, .slice (some ⟨w4.heap.size, 0, none⟩) 1 1] 34 (0, 0)] := ⟨_, rfl⟩
      have hb5 : Below w4.heap.size w4 W5 := by rw [hW5]; exact allocs_below _ _
      have g5 : W5.heap[w4.heap.size]? = some (.cells #[.int .u8 (k % 256 : Nat)] 5 (0, 0)) := by rw [hkm, hW5]; exact allocs_at (i := 0) rfl
      have i5 : W5.heap[w4.heap.size + 1]? = some (.cells #[.slice q4 (highOf k 8).length c4, .slice (some ⟨w4.heap.size, 0, none⟩) 1 1] 34 (0, 0)) := by rw [hW5]; exact allocs_at (i := 1) rfl
      have hb45 : Below wr.heap.size wr W5 := hb4.trans (hb5.mono hb4.size)
      have hs4 := hb4.size
      have x5 : TxtO own W5 (.slice q4 (highOf k 8).length c4) (highOf k 8) := HT4.out.turns (Turns.below (g := g) (F := []) hb5)
      have y5 : TxtO own W5 (.slice (some ⟨w4.heap.size, 0, none⟩) 1 1) [k % 256] := TxtO.made (l := [k % 256]) g5 (fun c hc => by rw [List.mem_singleton.1 hc]; exact Nat.mod_lt _ (by decide)) (by unfold maxLen; simp) (HO.out.fl.new_none (by omega))
      have o5 := HO.out.stay hb45
      have t5 := HI.out.turns (Turns.below (g := g) (F := []) hb45) (fun j hj => hb45.block _ (HI.out.choose_spec.2.1.lt hj))
      obtain ⟨m1, m2, m3, m4⟩ := HG.out.small (by rw [HLN.out]; have := HN.out; omega)
      have hgp := HG.out.put HFIT.out (by rw [HLN.out]; have := HN.out; omega)
      have hpt := put_open (it := ⟨highOf k 8, [k % 256]⟩) o5 (by decide) m1 m2 m3 (by omega) (fun _ => ⟨hgp.roomy (by rw [List.length_append, HLN.out]; have := HN.out; simp; omega) (by decide), by show (highOf k 8).length ≤ _; rw [highOf_length]; decide, by show 1 ≤ _; decide⟩) x5.bytes y5.bytes
      rw [HG.out.may HFIT.out] at hpt
      have HPT := Lib.hid hpt; have HX5 := Lib.hid x5; have HY5 := Lib.hid y5; have HI5 := Lib.hid t5; have HW5 := Lib.hid hW5; have HG5 := Lib.hid i5; have HB5 := Lib.hid hb45; have HGP := Lib.hid hgp
      clear HSQ hown hb4 hb5 g5 i5 hb45 x5 y5 o5 t5 m1 m2 m3 m4 hpt hgp hW5
      go_wp2_with fail
      have e5 : allocs w4 [.cells #[.int .u8 ((k : Int) % 256)] 5 (0, 0), .cells #[.slice q4 (highOf k 8).length c4, .slice (some ⟨w4.heap.size, 0, none⟩) 1 1] 34 (0, 0)] = (w4.alloc (.cells #[.int .u8 ((k : Int) % 256)] 5)).alloc (.cells #[.slice q4 (highOf k 8).length c4, .slice (some ⟨w4.heap.size, 0, none⟩) 1 1] 34) := rfl
      rw [← e5, ← HW5.out]
      clear e5
      refine HPT.out.mono ?_
      rintro e6 w6 (⟨h, _⟩ | ⟨_, (⟨rfl, own6, lf6, Fo6, hl6, hF6, ht6, ho6⟩ | ⟨h0, _⟩)⟩)
      · cases h
      · obtain rfl : lf6 = 0 := by omega
        have hs5 := HB5.out.size
        have hgl := HO.out.fl.glt
        have hFl := HO.out.lt
        have ib := (Array.getElem?_eq_some_iff.1 HG5.out).1
        have i6 : w6.heap[w4.heap.size + 1]? = some (.cells #[.slice q4 (highOf k 8).length c4, .slice (some ⟨w4.heap.size, 0, none⟩) 1 1] 34 (0, 0)) := (ht6.block _ ib (by omega) (fun hm => by have := hFl _ hm; omega) (HO.out.fl.new_none (by omega))).trans HG5.out
        have a0 : w6.cell? ⟨w4.heap.size + 1, 0, none⟩ = some (.slice q4 (highOf k 8).length c4) := cellsT i6 0
        have a1 : w6.cell? ⟨w4.heap.size + 1, 1, none⟩ = some (.slice (some ⟨w4.heap.size, 0, none⟩) 1 1) := cellsT i6 1
        obtain ⟨W7, hW7⟩ : ∃ W7, W7 = w6.alloc (.cells #[.slice q4 (highOf k 8).length c4, .slice (some ⟨w4.heap.size, 0, none⟩) 1 1] 34) := ⟨_, rfl⟩
        have hb7 : Below w6.heap.size w6 W7 := by rw [hW7]; exact (Below.refl _ _).alloc (Nat.le_refl _) _
        have g7 : W7.heap[w6.heap.size]? = some (.cells #[.slice q4 (highOf k 8).length c4, .slice (some ⟨w4.heap.size, 0, none⟩) 1 1] 34 (0, 0)) := by rw [hW7]; exact heap_alloc_new w6 _
        have x7 := (HX5.out.turns ht6).turns (Turns.below (g := g) (F := []) hb7)
        have y7 := (HY5.out.turns ht6).turns (Turns.below (g := g) (F := []) hb7)
        have hxl : ∀ j, (Value.slice px (sqIt k).length cx).ownBlock = some j → j < wr.heap.size := fun j hj => HI.out.choose_spec.2.1.lt hj
        have hx6 : ∀ j, (Value.slice px (sqIt k).length cx).ownBlock = some j → own6 j = none := fun j hj => (ht6.same _ (by have := hxl j hj; omega)).trans (HFR.out j hj).1
        have i7 := (HI5.out.turns ht6 (fun j hj => ht6.block _ (by have := hxl j hj; omega) (HFR.out j hj).2.1 (HFR.out j hj).2.2.2 (HFR.out j hj).1)).turns (Turns.below (g := g) (F := []) hb7) (fun j hj => hb7.block _ (by have := hxl j hj; have := ht6.size; omega))
        obtain ⟨v8, w8, hrun, hi8, hg8⟩ := i7.app (it := ⟨highOf k 8, [k % 256]⟩) (by rw [HLN.out]; have := HN.out; omega) x7 y7 ⟨rfl, rfl⟩ (cellsT g7 0) (cellsT g7 1) (c := 1)
        have hF6l := ho6.lt
        have o8 := (ho6.stay hb7).grows hg8 i7.choose_spec.2.1 (by decide) (fun j hj => ⟨hx6 j hj, (HFR.out j hj).2.1, (HFR.out j hj).2.2.1, fun hm => by
          rcases hF6 j hm with h1 | h1
          · exact (HFR.out j hj).2.2.2 h1
          · have := hxl j hj
            omega⟩)
        have hn8 : ∀ j, v8.ownBlock = some j → own6 j = none ∧ j ≠ g ∧ w1.heap.size ≤ j ∧ j ∉ Fo6 := fun j hj => by
          rcases hg8.new with h1 | ⟨q, h1, h2⟩
          · rw [h1] at hj
            exact ⟨hx6 j hj, (HFR.out j hj).2.1, (HFR.out j hj).2.2.1, fun hm => by
              rcases hF6 j hm with h3 | h3
              · exact (HFR.out j hj).2.2.2 h3
              · have := hxl j hj
                omega⟩
          · rw [h1] at hj
            cases hj
            have := hb7.size; have := ht6.size
            exact ⟨ho6.fl.new_none (by omega), by omega, by omega, fun hm => by have := hF6l _ hm; omega⟩
        have HNX : Hid (BmLoop w1 g a b N v8 (.int .i64 (k + 1 : Nat)) w8) := ⟨k + 1, _, _, _, Fo6, own6, HLT.out, rfl, o8, by rw [sqIt_succ]; exact HGP.out, by rw [sqIt_succ]; exact hi8, hn8⟩
        rw [HLN.out, hW7] at hrun
        have HRUN := Lib.hid hrun
        clear hl6 hF6 ht6 ho6 hs5 hgl hFl ib i6 hW7 hb7 g7 x7 y7 hxl hx6 i7 hrun hi8 hg8 hF6l o8 hn8 HPT HGP HX5 HY5 HI5 HW5 HG5 HB5 HT4 HI HO HG HFR HFIT
        have hwi : IntKind.i64.wrap ((k : Int) + 1) = (k + 1 : Nat) := by rw [IntKind.wrap_i64]; have := HN.out; have := HLT.out; omega
        have HME : Hid (N - (k + 1) < N - k) := by have := HLT.out; unfold Hid; omega
        obtain ⟨I1, hI1⟩ : ∃ x, x = k + 1 := ⟨_, rfl⟩
        rw [← hI1] at hwi HNX HME
        clear hI1
        go_wp2_with (at_builtin; refine Lib.wpList_append_run _ rfl (.tmp 47) (.tmp 49) 30 30 rfl _ _ rfl rfl _ w8 HRUN.out ?_)
        go_roundw
        case rel => exact HNX.out
        case measure => simp [intOf]; have := HME.out; omega
      · exact absurd rfl h0
    · obtain rfl : k = N := by omega
      have hlen := sqIt_length k
      obtain ⟨C', d, H, hd1, hd2, hd3, hd6, hd4, hd5⟩ := hgd.done (by rw [hlen]; omega)
      rw [hlen] at hd3 ⊢
      obtain ⟨m1, m2, m3, m4⟩ := hgd.small (by rw [hlen]; omega)
      have HDN := Lib.hid (done_open ho (by decide) ⟨by omega, by omega⟩ hd1 m3 (by omega) m1 m2)
      have hki : ¬ (k : Int) < k := by omega
      have HO := Lib.hid ho; have HI := Lib.hid hit; have HFR := Lib.hid hfr; have HLN := Lib.hid hlen
      have HH := Lib.hid hd6; have H2 := Lib.hid hd2; have H3 := Lib.hid hd3; have H4 := Lib.hid hd4; have H5 := Lib.hid hd5
      clear ho hgd hit hfr hlt hk h7 hlen hd1 hd2 hd3 hd4 hd5 hd6 m1 m2 m3 m4
      go_wp2_with fail
      refine HDN.out.mono ?_
      rintro e w4 (⟨rfl, own4, lf4, hl4, ht4, hf4, -⟩ | ⟨h0, _⟩)
      · obtain rfl : lf4 = 0 := by omega
        have i4 := HI.out.turns ht4 (fun j hj => ht4.block _ (HI.out.choose_spec.2.1.lt hj) (HFR.out j hj).2.1 (HFR.out j hj).2.2.2 (HFR.out j hj).1)
        obtain ⟨W5, hW5⟩ : ∃ W5, W5 = w4.alloc (.cells #[.int .i64 d.off, .int .u64 (d.ct : Nat)] 39) := ⟨_, rfl⟩
        have hb5 : Below w4.heap.size w4 W5 := by rw [hW5]; exact (Below.refl _ _).alloc (Nat.le_refl _) _
        have g5 : W5.heap[w4.heap.size]? = some (.cells #[.int .i64 d.off, .int .u64 (d.ct : Nat)] 39 (0, 0)) := by rw [hW5]; exact heap_alloc_new w4 _
        have c0 : W5.cell? ⟨w4.heap.size, 0, none⟩ = some (.int .i64 d.off) := cellsT g5 0
        have c1 : W5.cell? ⟨w4.heap.size, 1, none⟩ = some (.int .u64 (d.ct : Nat)) := cellsT g5 1
        obtain ⟨o, os, htf, ho1, ho2⟩ := hf4.tf
        have hcl := H4.out
        have hok : (fsT 16777216 C' os).Ok := fsT_ok (by decide) (by omega) (by omega)
        have hoo : o < 4611686018427387904 := by omega
        have hkl : (fsT 16777216 C' os).K.length ≤ 1048576 := by rw [fsT_len]; omega
        have hsm := htf.small
        have hdc : docAll (fsT 16777216 C' os).K d.off d.ct = some (sqIt k, H) := H2.out hsm
        have hby : ∀ Wx, Below W5.heap.size W5 Wx → Calls Try.prog 12 #[.pointer (some ⟨a, 0, none⟩), .string ⟨#[116]⟩] Wx (ByFile (fsT 16777216 C' os) w1 g a o own4 Wx) := fun Wx hx => bytes_tf ((htf.stay hb5).stay hx) hok hoo
        have hnn := hf4.new_none (k := w4.heap.size) (Nat.le_refl _)
        have hg4 := hf4.gcell
        have hown4 : ∀ j, (Value.slice px (sqIt k).length cx).ownBlock = some j → own4 j = none := fun j hj => (ht4.same _ (HI.out.choose_spec.2.1.lt hj)).trans (HFR.out j hj).1
        have i5 := i4.turns (Turns.below (g := g) (F := []) hb5) (fun j hj => hb5.block _ (i4.choose_spec.2.1.lt hj))
        generalize fsT 16777216 C' os = F at *
        have HBY := Lib.hid hby; have HSM := Lib.hid hsm; have HKL := Lib.hid hkl; have HDC := Lib.hid hdc; have HNN := Lib.hid hnn; have HG5 := Lib.hid g5
        have HWT : Hid (∀ wx w6 w7, Below W5.heap.size W5 wx → Steps own4 own4 wx w6 → Below w6.heap.size w6 w7 → RowAt KItem w7 px cx (sqIt k)) := fun wx w6 w7 h1 h2 h3 => i5.later h1 h2 (by
          obtain ⟨c, hc⟩ := hg4
          have h4 := (hb5.block _ (Array.getElem?_eq_some_iff.1 hc).1).trans hc
          exact ⟨c, (h1.block _ (Array.getElem?_eq_some_iff.1 h4).1).trans h4⟩) h3 hown4
        have HS5 : Hid (w4.heap.size < W5.heap.size) := (Array.getElem?_eq_some_iff.1 g5).1
        have HW5 := Lib.hid hW5
        have HBX : Hid (Below W5.heap.size W5 W5.drew) := (Below.refl _ _).drew
        clear i4 hb5 g5 htf ho1 ho2 hcl hok hoo hkl hsm hdc hby hnn hg4 hown4 i5 hl4 ht4 hf4 hW5 HO HI HFR HDN H2 H4
        go_wp2_with fail
        rw [← HW5.out]
        go_region_law (first
          | (go_simp; go_at_call 12; (with_reducible refine (HBY.out _ HBX.out).mono ?_); rintro e6 w6 ⟨pb, cb, rfl, hbv, hbl, hst6, htb⟩
             have g6 : w6.heap[w4.heap.size]? = some (.cells #[.int .i64 d.off, .int .u64 (d.ct : Nat)] 39 (0, 0)) := (hst6.block _ HS5.out (.inl HNN.out)).trans HG5.out
             have d0 : w6.cell? ⟨w4.heap.size, 0, none⟩ = some (.int .i64 d.off) := cellsT g6 0
             have d1 : w6.cell? ⟨w4.heap.size, 1, none⟩ = some (.int .u64 (d.ct : Nat)) := cellsT g6 1
             have HGT : Hid (Calls Try.prog 11 #[.slice pb F.K.length cb, .agg #[.int .i64 d.off, .int .u64 (d.ct : Nat)]] w6 (fun e w' => ∃ p c, e = .returned (.tuple #[.slice p k c, .int .i64 (H : Nat), .int .i64 0]) ∧ Below w6.heap.size w6 w' ∧ RowAt KItem w' p c (sqIt k))) := by
               have := got_any HSM.out HKL.out w6 pb cb d.off d.ct hbv H5.out HDC.out
               unfold GotTold at this
               rw [HLN.out] at this
               exact this
             have HST := Lib.hid hst6; have HB6 := Lib.hid htb.disk.below
             clear hbv hbl hst6 htb g6)
          | (go_simp; go_at_call 11; (with_reducible refine HGT.out.mono ?_); rintro e7 w7 ⟨pl, cl, rfl, hb7, hr7⟩
             have HB7 := Lib.hid hb7; have HR7 := Lib.hid hr7
             clear hb7 hr7))
        all_goals
          have hsame := sameItems_any HR7.out (HWT.out _ _ _ HBX.out HST.out HB7.out)
          rw [HLN.out, decide_eq_true rfl] at hsame
          have HSA := Lib.hid hsame
          have HBE : Hid (Below w.heap.size w w7) := HB1.out.trans ((HB6.out.trans (HB7.out.mono HB6.out.size)).mono HB1.out.size)
          have HL2 : Hid (BmDeep w7 H (.int .i64 1) (.int .i64 1) w7) := ⟨rfl, 1, Nat.le_refl _, .inr rfl, rfl, rfl⟩
          clear hsame HR7 HB7 HST HB6 HWT HGT
          clear d0 d1 c0 c1 HBX HBY HSM HKL HDC HNN HG5 HS5 HW5 H5
          go_wp2
          go_loopw [16, 17] (fun m j wr => BmDeep w7 H m j wr) (fun _ j _ => H - (intOf j).toNat)
          case atStart => exact HL2.out
          case round =>
            clear HL2
            rename World => wr
            obtain ⟨rfl, t, ht1, ht2, rfl, rfl⟩ := hrel
            have h6 := HH.out
            by_cases hlt : t < H
            · have hti : (t : Int) < H := by omega
              have hp : 4 ^ (t - 1) ≤ 4 ^ 5 := Nat.pow_le_pow_right (by decide) (by omega)
              have hps : 4 ^ (t + 1 - 1) = 4 ^ (t - 1) * 4 := by
                rw [show t + 1 - 1 = (t - 1) + 1 by omega, Nat.pow_succ]
              have HNX : Hid (BmDeep w7 H (.int .i64 (4 ^ (t + 1 - 1) : Nat)) (.int .i64 (t + 1 : Nat)) w7) := ⟨rfl, t + 1, by omega, .inl hlt, rfl, rfl⟩
              have HME : Hid (H - (t + 1) < H - t) := by unfold Hid; omega
              rw [hps] at HNX
              obtain ⟨P, hP⟩ : ∃ P, P = 4 ^ (t - 1) := ⟨_, rfl⟩
              rw [← hP] at hp HNX ⊢
              have hwi : IntKind.i64.wrap ((t : Int) + 1) = (t + 1 : Nat) := by rw [IntKind.wrap_i64]; omega
              have hwm : IntKind.i64.wrap ((P : Int) * 4) = (P * 4 : Nat) := by rw [IntKind.wrap_i64]; omega
              obtain ⟨I1, hI1⟩ : ∃ x, x = t + 1 := ⟨_, rfl⟩
              obtain ⟨P1, hP1⟩ : ∃ x, x = P * 4 := ⟨_, rfl⟩
              rw [← hI1] at hwi HNX HME
              rw [← hP1] at hwm HNX
              clear hI1 hP1 hP hps hlt ht1 ht2 h6
              go_wp2
              go_roundw
              case rel => exact HNX.out
              case measure => simp [intOf]; have := HME.out; omega
            · have hti : ¬ (t : Int) < H := by omega
              obtain ⟨P, hP⟩ : ∃ P, P = 4 ^ (t - 1) := ⟨_, rfl⟩
              rw [← hP]
              have hp2 : (H : Int) < 2 ∨ 2 * (P : Int) ≤ k := by
                rcases H3.out with h | h
                · exact .inl (by omega)
                · by_cases h2 : H < 2
                  · exact .inl (by omega)
                  · obtain rfl : t = H := by omega
                    rw [← hP] at h
                    exact .inr (by omega)
              have hpb : P ≤ 1024 := by
                have : 4 ^ (t - 1) ≤ 4 ^ 5 := Nat.pow_le_pow_right (by decide) (by omega)
                omega
              have hwm : IntKind.i64.wrap (2 * (P : Int)) = 2 * (P : Int) := by rw [IntKind.wrap_i64]; omega
              clear hP hlt ht1 ht2 h6 hpb
              go_wp2_with fail
              refine HSA.out.mono ?_
              rintro e w9 ⟨rfl, hb9⟩
              have HBF := Lib.hid (HBE.out.trans (hb9.mono HBE.out.size))
              clear hb9
              rcases hp2 with hp2 | hp2
              · go_wp2
                go_ret
                exact ⟨rfl, HBF.out⟩
              · by_cases h2 : (H : Int) < 2
                · go_wp2
                  go_ret
                  exact ⟨rfl, HBF.out⟩
                · go_wp2
                  go_ret
                  exact ⟨rfl, HBF.out⟩
      · exact absurd rfl h0
end Go.Proofs.Ytajfcnaifegonaa.Sl.Nd
/- Rows made trees, in a program: the law BulkFails. -/
namespace Go.By
open Go
def noIt (k : Nat) : List NIt := (List.range k).map fun i => ⟨highOf i 8, []⟩
theorem noIt_succ (k : Nat) : noIt (k + 1) = noIt k ++ [⟨highOf k 8, []⟩] := by simp [noIt, List.range_succ]
theorem noIt_length (k : Nat) : (noIt k).length = k := by simp [noIt]
theorem noIt_fit {k : Nat} (hk : k ≤ 1000000) : Fit (noIt k) := by
  refine ⟨?_, fun i hi => ?_, by rw [noIt_length]; exact hk⟩
  · unfold noIt
    rw [List.pairwise_map]
    refine (List.pairwise_lt_range (n := k)).imp_of_mem ?_
    intro a b ha hb hab
    have h1 := List.mem_range.1 ha
    have h2 := List.mem_range.1 hb
    show lessN (highOf a 8) (highOf b 8) = true
    rw [lessN_high 8 a b (by omega) (by omega)]
    simpa using hab
  · obtain ⟨j, hj, rfl⟩ := List.mem_map.1 hi
    refine ⟨?_, highOf_small j 8, fun c hc => (by cases hc)⟩
    rw [mayIt_iff, mayK_iff, highOf_length]
    exact ⟨⟨by omega, by omega⟩, by simp⟩
end Go.By
namespace Go.Proofs.Ytajfcnaifegonaa.Sl.Nd
open Go Go.RowKit Go.By
section
variable {R : Int} {C : List Nat} {lf : Nat} {W : World} {g a : Nat} {own own' : Own} {b : Nat} {its : List NIt} {rest : List (List KE)} {Fo : List Nat} {w w' : World}
theorem BkF.fail (h : BkF R C lf W g a own w) (n : Nat) : Calls Try.prog 14 #[.pointer (some ⟨a, 0, none⟩), .int .i64 (n : Int)] w fun e w' => e = .returned (.tuple #[]) ∧ Steps own own w w' ∧ BkF R C n W g a own w' := by
  obtain ⟨o, os, h1, h2, h3, h4⟩ := h
  refine (h1.fail n).mono ?_
  rintro e w' ⟨rfl, hs, hd⟩
  exact ⟨rfl, hs, o, os, hd, h2.steps hs, h3, h4⟩
theorem BkF.old (h : BkF R C lf W g a own w) : Below W.heap.size W w ∧ ∀ k r, own k = some r → W.heap.size ≤ k := by
  obtain ⟨o, os, h1, h2, h3, h4⟩ := h
  exact ⟨h1.below, h1.far⟩
theorem Open.old (h : Open R C lf W g a own b its rest Fo w) (ht : Turns g Fo own own' w w') : Below W.heap.size W w' := by
  obtain ⟨hb, hfar⟩ := h.fl.old
  obtain ⟨p, vi, kv, dv, up, F, h1, h2, rfl⟩ := h.st
  have hgl := h.fl.glt
  refine ⟨ht.os.trans hb.os, ht.tape.trans hb.tape, ht.output.trans hb.output, Nat.le_trans hb.size ht.size, fun k hk => (ht.block k (Nat.lt_of_lt_of_le hk hb.size) (by omega) (fun hm => ?_) ?_).trans (hb.block k hk)⟩
  · rcases List.mem_cons.1 hm with rfl | hm
    · have := h.bf.2.2
      omega
    · have := (h2.fr k hm).2.2.1
      omega
  · cases e : own k with
    | none => rfl
    | some r => have := hfar k r e; omega
end
def BfLoop (w1 : World) (g a b N : Nat) (f i : Value) (wr : World) : Prop :=
  ∃ k : Nat, k ≤ N ∧ i = .int .i64 k ∧ ((f = .bool false ∧ ∃ (lf : Nat) (C : List Nat) (its : List NIt) (rest : List (List KE)) (Fo : List Nat) (own : Own), lf ≤ 40 ∧ Open 16777216 C lf w1 g a own b its rest Fo wr ∧ Good C its rest (noIt k)) ∨ (f = .bool true ∧ Over b 5 wr ∧ Below w1.heap.size w1 wr))
set_option maxRecDepth 100000 in
set_option maxHeartbeats 4000000 in
theorem bulkFails_any (n m : Nat) (_hn : n < 65536) (_hm : m < 256) (w : World) : Calls Try.prog 4 #[.int .u16 (n : Nat), .int .u8 (m : Nat)] w fun e w' => e = .returned (.bool true) ∧ Below w.heap.size w w' := by
  obtain ⟨N, hN⟩ : ∃ N, N = n % 300 := ⟨_, rfl⟩
  have h300 : N < 300 := by rw [hN]; exact Nat.mod_lt _ (by decide)
  have hrem : (n : Int).tmod 300 = (N : Nat) := by rw [hN]; rfl
  have hw1 : IntKind.i64.wrap (N : Int) = N := by rw [IntKind.wrap_i64]; omega
  obtain ⟨M, hM⟩ : ∃ M, M = m % 40 := ⟨_, rfl⟩
  have h40 : M < 40 := by rw [hM]; exact Nat.mod_lt _ (by decide)
  have hrem2 : (m : Int).tmod 40 = (M : Nat) := by rw [hM]; rfl
  have hw2 : IntKind.i64.wrap (M : Int) = M := by rw [IntKind.wrap_i64]; omega
  have hw3 : IntKind.i64.wrap (1 + (M : Int)) = (M + 1 : Nat) := by rw [IntKind.wrap_i64]; omega
  have HN := Lib.hid h300
  have HM := Lib.hid h40
  obtain ⟨M1, hM1⟩ : ∃ x, x = M + 1 := ⟨_, rfl⟩
  rw [← hM1] at hw3
  have HM1 := Lib.hid hM1
  clear hN h300 hM h40 hM1
  go_enter Try.func4, Try.ntmps4
  go_wp2_with fail
  refine (begun16_any w).mono ?_
  rintro e w1 ⟨rfl, hb1⟩
  have HB1 := Lib.hid hb1
  clear hb1
  go_wp2_with fail
  refine (new13_bk w1).mono ?_
  rintro e w2 ⟨a, g, own2, rfl, hf2⟩
  have HF2 := Lib.hid hf2
  clear hf2
  go_wp2_with fail
  refine (HF2.out.fail M1).mono ?_
  rintro e w2' ⟨rfl, -, hf2'⟩
  have HF3 := Lib.hid hf2'
  clear hf2' HF2
  go_wp2_with fail
  refine (new_bk g w2').mono ?_
  rintro e w3 ⟨b, p, rfl, h31, h32, h33, h34, h35, h36⟩
  obtain ⟨Fo3, ho3⟩ : ∃ Fo3, Open 16777216 [] M1 w1 g a own2 b [] [] Fo3 w3 := ⟨_, open_new HF3.out h31 h32 h33 h34 h35 h36⟩
  have HL0 : Hid (BfLoop w1 g a b N (.bool false) (.int .i64 (0 : Nat)) w3) := ⟨0, Nat.zero_le _, rfl, .inl ⟨rfl, M1, [], [], [], Fo3, own2, by have := HM1.out; have := HM.out; omega, ho3, Good.none⟩⟩
  clear ho3 h31 h32 h33 h34 h35 h36 HF3 HM HM1
  go_wp2
  go_loopw [9, 10] (fun f i W => BfLoop w1 g a b N f i W) (fun _ i _ => N - (intOf i).toNat)
  case atStart => exact HL0.out
  case round =>
    clear HL0
    rename World => wr
    obtain ⟨k, hk, rfl, hcase⟩ := hrel
    have h7 := HN.out
    by_cases hlt : k < N
    · have hki : (k : Int) < N := by omega
      have hwi : IntKind.i64.wrap ((k : Int) + 1) = (k + 1 : Nat) := by rw [IntKind.wrap_i64]; omega
      have HME : Hid (N - (k + 1) < N - k) := by unfold Hid; omega
      have HSQ := Lib.hid (seq_bk k (by omega) wr)
      have HLT := Lib.hid hlt
      rcases hcase with ⟨rfl, lf, C, its, rest, Fo, own, hlf, ho, hgd⟩ | ⟨rfl, hov, hbw⟩
      · have hfit : Fit (noIt k ++ [⟨highOf k 8, []⟩]) := by rw [← noIt_succ]; exact noIt_fit (by omega)
        have HO := Lib.hid ho; have HG := Lib.hid hgd; have HFIT := Lib.hid hfit; have HLF := Lib.hid hlf; have HLN := Lib.hid (noIt_length k)
        clear ho hgd hfit hlf hlt hk h7
        go_wp2_with fail
        refine HSQ.out.mono ?_
        rintro e w4 ⟨v4, rfl, hown, hb4⟩
        have HT4 : Hid (TxtO own w4 v4 (highOf k 8)) := TxtO.of_new hown (highOf_small _ _) (by rw [highOf_length]; decide) (fun j hj => HO.out.fl.new_none hj)
        obtain ⟨q4, c4, rfl, -⟩ := HT4.out.bytes.any
        have o4 := HO.out.stay hb4
        obtain ⟨m1, m2, m3, m4⟩ := HG.out.small (by rw [HLN.out]; have := HN.out; omega)
        have hgp := HG.out.put HFIT.out (by rw [HLN.out]; have := HN.out; omega)
        have hpt := put_open (it := ⟨highOf k 8, []⟩) o4 (by have := HLF.out; omega) m1 m2 m3 (by omega) (fun _ => ⟨hgp.roomy (by rw [List.length_append, HLN.out]; have := HN.out; simp; omega) (by decide), by show (highOf k 8).length ≤ _; rw [highOf_length]; decide, by show 0 ≤ _; decide⟩) HT4.out.bytes (Bytes.nil _)
        rw [HG.out.may HFIT.out] at hpt
        have HPT := Lib.hid hpt; have HGP := Lib.hid hgp; have HO4 := Lib.hid o4
        have HNT : Hid (∀ w6, Over b 5 w6 → Below w1.heap.size w1 w6 → BfLoop w1 g a b N (.bool true) (.int .i64 (k + 1 : Nat)) w6) := fun w6 h1 h2 => ⟨k + 1, HLT.out, rfl, .inr ⟨rfl, h1, h2⟩⟩
        have HNF : Hid (∀ w6 lf6 own6 Fo6, lf6 ≤ 40 → Open 16777216 (putB C its rest ⟨highOf k 8, []⟩).1 lf6 w1 g a own6 b (putB C its rest ⟨highOf k 8, []⟩).2.1 (putB C its rest ⟨highOf k 8, []⟩).2.2 Fo6 w6 → BfLoop w1 g a b N (.bool false) (.int .i64 (k + 1 : Nat)) w6) := fun w6 lf6 own6 Fo6 h1 h2 => ⟨k + 1, HLT.out, rfl, .inl ⟨rfl, lf6, _, _, _, Fo6, own6, h1, h2, by rw [noIt_succ]; exact HGP.out⟩⟩
        clear hown hb4 o4 m1 m2 m3 m4 hgp hpt HT4 HSQ HG HO HFIT
        obtain ⟨I1, hI1⟩ : ∃ x, x = k + 1 := ⟨_, rfl⟩
        rw [← hI1] at hwi HME HNT HNF
        clear hI1
        go_wp2_with fail
        refine HPT.out.mono ?_
        rintro e6 w6 (⟨h, _⟩ | ⟨_, (⟨rfl, own6, lf6, Fo6, hl6, -, -, ho6⟩ | ⟨h0, rfl, own6, ht6, hov6⟩)⟩)
        · cases h
        · have HF := Lib.hid (HNF.out w6 lf6 own6 Fo6 (by have := HLF.out; omega) ho6)
          clear hl6 ho6 HPT HGP HO4 HNT HNF
          go_wp2
          go_roundw
          case rel => exact HF.out
          case measure => simp [intOf]; have := HME.out; omega
        · have HF := Lib.hid (HNT.out w6 hov6 (HO4.out.old ht6))
          clear h0 ht6 hov6 HPT HGP HO4 HNT HNF
          go_wp2
          go_roundw
          case rel => exact HF.out
          case measure => simp [intOf]; have := HME.out; omega
      · have HOV := Lib.hid hov; have HBW := Lib.hid hbw
        clear hov hbw hlt hk h7
        obtain ⟨I1, hI1⟩ : ∃ x, x = k + 1 := ⟨_, rfl⟩
        have HNT : Hid (∀ w6, Over b 5 w6 → Below w1.heap.size w1 w6 → BfLoop w1 g a b N (.bool true) (.int .i64 (I1 : Nat)) w6) := fun w6 h1 h2 => ⟨I1, by rw [hI1]; exact HLT.out, rfl, .inr ⟨rfl, h1, h2⟩⟩
        rw [← hI1] at hwi HME
        clear hI1
        go_wp2_with fail
        refine HSQ.out.mono ?_
        rintro e w4 ⟨v4, rfl, hown, hb4⟩
        obtain ⟨q4, c4, rfl⟩ := shape_of hown
        have hov4 : Over b 5 w4 := (hb4.block _ (Array.getElem?_eq_some_iff.1 HOV.out).1).trans HOV.out
        have HPS := Lib.hid (put_shut (ka := .slice q4 (highOf k 8).length c4) (va := .slice none 0 0) hov4 (by decide))
        have HO4 := Lib.hid hov4; have HB4 := Lib.hid (HBW.out.trans (hb4.mono HBW.out.size))
        clear hown hb4 hov4 HSQ HOV HBW
        go_wp2_with fail
        refine HPS.out.mono ?_
        rintro e6 w6 ⟨rfl, hb6⟩
        rw [show orOne 5 = 5 from rfl]
        have HF := Lib.hid (HNT.out w6 ((hb6.block _ (Array.getElem?_eq_some_iff.1 HO4.out).1).trans HO4.out) (HB4.out.trans (hb6.mono HB4.out.size)))
        clear hb6 HPS HO4 HB4 HNT
        go_wp2
        go_roundw
        case rel => exact HF.out
        case measure => simp [intOf]; have := HME.out; omega
    · obtain rfl : k = N := by omega
      have hki : ¬ (k : Int) < k := by omega
      rcases hcase with ⟨rfl, lf, C, its, rest, Fo, own, hlf, ho, hgd⟩ | ⟨rfl, hov, hbw⟩
      · have hlen := noIt_length k
        obtain ⟨C', d, H, hd1, hd2, -, hd6, hd4, hd5⟩ := hgd.done (by rw [hlen]; omega)
        obtain ⟨m1, m2, m3, m4⟩ := hgd.small (by rw [hlen]; omega)
        have HDN := Lib.hid (done_open ho (by omega) ⟨by omega, by omega⟩ hd1 m3 (by omega) m1 m2)
        have HO := Lib.hid ho; have HLN := Lib.hid hlen
        have H2 := Lib.hid hd2; have H4 := Lib.hid hd4; have H5 := Lib.hid hd5
        clear ho hgd hlf hlt hk h7 hlen hd1 hd2 hd4 hd5 hd6 m1 m2 m3 m4
        go_wp2_with fail
        refine HDN.out.mono ?_
        rintro e w4 (⟨rfl, own4, lf4, hl4, ht4, hf4, -⟩ | ⟨h0, rfl, own4, ht4, hov4⟩)
        · obtain ⟨W5, hW5⟩ : ∃ W5, W5 = w4.alloc (.cells #[.int .i64 d.off, .int .u64 (d.ct : Nat)] 39) := ⟨_, rfl⟩
          have hb5 : Below w4.heap.size w4 W5 := by rw [hW5]; exact (Below.refl _ _).alloc (Nat.le_refl _) _
          have g5 : W5.heap[w4.heap.size]? = some (.cells #[.int .i64 d.off, .int .u64 (d.ct : Nat)] 39 (0, 0)) := by rw [hW5]; exact heap_alloc_new w4 _
          have HFL : Hid (Calls Try.prog 14 #[.pointer (some ⟨a, 0, none⟩), .int .i64 0] W5 fun e w' => e = .returned (.tuple #[]) ∧ Steps own4 own4 W5 w' ∧ BkF 16777216 C' 0 w1 g a own4 w') := (hf4.stay hb5).fail 0
          have HNN := Lib.hid (hf4.new_none (k := w4.heap.size) (Nat.le_refl _))
          have HG5 := Lib.hid g5
          have HW5 := Lib.hid hW5
          clear hl4 ht4 hf4 hb5 g5 hW5 HO HDN
          go_wp2_with fail
          rw [← HW5.out]
          refine HFL.out.mono ?_
          rintro e w6 ⟨rfl, hst6, hf6⟩
          have g6 : w6.heap[w4.heap.size]? = some (.cells #[.int .i64 d.off, .int .u64 (d.ct : Nat)] 39 (0, 0)) := (hst6.block _ (Array.getElem?_eq_some_iff.1 HG5.out).1 (.inl HNN.out)).trans HG5.out
          have c0 : w6.cell? ⟨w4.heap.size, 0, none⟩ = some (.int .i64 d.off) := cellsT g6 0
          have c1 : w6.cell? ⟨w4.heap.size, 1, none⟩ = some (.int .u64 (d.ct : Nat)) := cellsT g6 1
          obtain ⟨o, os, htf, ho1, ho2⟩ := hf6.tf
          have hcl := H4.out
          have hok : (fsT 16777216 C' os).Ok := fsT_ok (by decide) (by omega) (by omega)
          have hoo : o < 4611686018427387904 := by omega
          have hkl : (fsT 16777216 C' os).K.length ≤ 1048576 := by rw [fsT_len]; omega
          have hsm := htf.small
          have hdc : docAll (fsT 16777216 C' os).K d.off d.ct = some (noIt k, H) := H2.out hsm
          have hby : ∀ Wx, Below w6.heap.size w6 Wx → Calls Try.prog 12 #[.pointer (some ⟨a, 0, none⟩), .string ⟨#[116]⟩] Wx (ByFile (fsT 16777216 C' os) w1 g a o own4 Wx) := fun Wx hx => bytes_tf (htf.stay hx) hok hoo
          generalize fsT 16777216 C' os = F at *
          have HBY := Lib.hid hby; have HSM := Lib.hid hsm; have HKL := Lib.hid hkl; have HDC := Lib.hid hdc; have HG6 := Lib.hid g6
          have HBX : Hid (Below w6.heap.size w6 w6.drew) := (Below.refl _ _).drew
          clear hst6 hf6 g6 htf ho1 ho2 hcl hok hoo hkl hsm hdc hby H2 H4 HFL HW5 HG5
          go_wp2_with fail
          go_region_law (first
            | (go_simp; go_at_call 12; (with_reducible refine (HBY.out _ HBX.out).mono ?_); rintro e7 w7 ⟨pb, cb, rfl, hbv, hbl, hst7, htb⟩
               have g7 : w7.heap[w4.heap.size]? = some (.cells #[.int .i64 d.off, .int .u64 (d.ct : Nat)] 39 (0, 0)) := (hst7.block _ (Array.getElem?_eq_some_iff.1 HG6.out).1 (.inl HNN.out)).trans HG6.out
               have d0 : w7.cell? ⟨w4.heap.size, 0, none⟩ = some (.int .i64 d.off) := cellsT g7 0
               have d1 : w7.cell? ⟨w4.heap.size, 1, none⟩ = some (.int .u64 (d.ct : Nat)) := cellsT g7 1
               have HGT : Hid (Calls Try.prog 11 #[.slice pb F.K.length cb, .agg #[.int .i64 d.off, .int .u64 (d.ct : Nat)]] w7 (fun e w' => ∃ p c, e = .returned (.tuple #[.slice p k c, .int .i64 (H : Nat), .int .i64 0]) ∧ Below w7.heap.size w7 w')) := by
                 have := got_any HSM.out HKL.out w7 pb cb d.off d.ct hbv H5.out HDC.out
                 unfold GotTold at this
                 rw [HLN.out] at this
                 refine this.mono ?_
                 rintro e w' ⟨p, c, rfl, h1, -⟩
                 exact ⟨p, c, rfl, h1⟩
               have HB6 := Lib.hid htb.disk.below
               clear hbv hbl hst7 htb g7)
            | (go_simp; go_at_call 11; (with_reducible refine HGT.out.mono ?_); rintro e8 w8 ⟨pl, cl, rfl, hb8⟩
               have HB8 := Lib.hid hb8
               clear hb8))
          all_goals
            have HBE : Hid (Below w.heap.size w w8) := HB1.out.trans ((HB6.out.trans (HB8.out.mono HB6.out.size)).mono HB1.out.size)
            clear HB8 HB6 HGT d0 d1 c0 c1 HBX HBY HSM HKL HDC HNN HG6 H5
            go_wp2
            go_ret
            exact ⟨rfl, HBE.out⟩
        · have HBE : Hid (Below w.heap.size w w4) := HB1.out.trans ((HO.out.old ht4).mono HB1.out.size)
          clear h0 ht4 hov4 HO HDN H2 H4 H5
          go_wp2
          go_ret
          exact ⟨rfl, HBE.out.alloc HBE.out.size _⟩
      · have HDN := Lib.hid (done_shut hov (by decide))
        have HBW := Lib.hid hbw
        clear hov hbw hlt hk h7
        go_wp2_with fail
        refine HDN.out.mono ?_
        rintro e w4 ⟨rfl, hb4⟩
        rw [show orOne 5 = 5 from rfl]
        have HBE : Hid (Below w.heap.size w w4) := HB1.out.trans ((HBW.out.trans (hb4.mono HBW.out.size)).mono HB1.out.size)
        clear hb4 HDN HBW
        go_wp2
        go_ret
        exact ⟨rfl, HBE.out.alloc HBE.out.size _⟩
end Go.Proofs.Ytajfcnaifegonaa.Sl.Nd
/- The law BulkMany holds whatever the input: a row of so many items, laid one behind the other, is found again whole, in a tree no deeper than it must be; no condition. -/
namespace Go.By
open Go
theorem u16_top {a : Int} (h : (Lit.int .u16 a).wf = true) : ∃ n : Nat, a = n ∧ n < 65536 := by
  have h' : 0 ≤ a ∧ a ≤ 65535 := by simpa [Lit.wf, IntKind.min, IntKind.max, IntKind.signed, IntKind.bits] using h
  exact ⟨a.toNat, by omega, by omega⟩
end Go.By
namespace Go.Proofs.Ytajfcnaifegonaa.Sl.Nd
open Go Go.ChangeShapes Go.WideShapes Go.ChangeAt Go.RowKit Go.By
set_option maxRecDepth 100000 in
theorem bulkMany_lifted (os : Os) (started : os.Started) (H : Type) (enc : TypeId × Value → H) :
    ReturnsInHanded {} Try.checked os 3 .any (Rows.bulkManySpec.pre6 enc Try.prog Try.f3 Rows.bulkManyRow.domain false) (Rows.bulkManySpec.post enc Try.prog Try.f3 false true false false) := by
  refine returnsInHanded_of_change (C := Try.checked) own_none started (by kernel_rfl) Try.func3
    (ChangeSpec.witness6 (enc := enc) (C := Try.checked) false ⟨#[], #[.int .u16 0], []⟩ 8 (by kernel_rfl) (by kernel_rfl) (by kernel_rfl) (by kernel_rfl)) ?_
  intro W base args ds gs before hval0 hW hcnd _
  have hval : ∀ (j : Nat) t v, Try.f3.params[j]? = some t → args[j]? = some v → Value.okWide Try.prog W .any base t v := hval0
  have hW' := hW
  obtain ⟨p, q, hA0, hV, rfl, hfz, hnd⟩ := hW
  have hA : DataW.TrodAll enc Try.prog W 0 (fun _ => true) true Try.f3.params.toList args.toList ds p := hA0
  have hp : Try.f3.params = #[22] := by kernel_rfl
  rw [hp] at hA hval
  obtain ⟨v0, d0, rfl, rfl, h0⟩ := trodAll_one hA
  obtain ⟨rfl, rfl⟩ := trodVars_none hV
  obtain ⟨a, rfl, _, _, wa⟩ := open_int (P := Try.prog) (t := 22) (k := .u16) (by kernel_rfl) (hval 0 22 v0 rfl rfl) h0
  obtain ⟨n, rfl, hn⟩ := u16_top wa
  refine (bulkMany_any n hn W).mono fun e W' ⟨he, hb⟩ => ?_
  subst he
  exact ⟨_, rfl, law_post (tb := 4) laidOut (by rw [hp]; intro t ht; simp at ht; subst ht; exact ⟨by kernel_rfl, by decide +kernel⟩) rfl rfl (by kernel_rfl) (by kernel_rfl) hW' hb⟩
theorem bulkMany_holds : Rows.BulkManySaid :=
  OpenClaim.holds_of_wide 3 Try.f3 rfl rfl rfl rfl rfl rfl rfl ⟨rfl, rfl, rfl, rfl, rfl⟩ rfl rfl rfl rfl rfl (by kernel_rfl) Try.func3 (by kernel_rfl)
    (of_decide_eq_true (by kernel_rfl)) (by unfold Func.isWrapper; rw [if_neg (by decide +kernel)]; exact ⟨rfl, rfl⟩)
    (fun os started H enc _ => bulkMany_lifted os started H enc)
end Go.Proofs.Ytajfcnaifegonaa.Sl.Nd
/- The law BulkFails holds whatever the input: where the disk fails, Put or Done says so, and so does all that is asked behind it; where it does not, all items are found again; no condition. -/
namespace Go.By
open Go
theorem u16_up {a : Int} (h : (Lit.int .u16 a).wf = true) : ∃ n : Nat, a = n ∧ n < 65536 := by
  have h' : 0 ≤ a ∧ a ≤ 65535 := by simpa [Lit.wf, IntKind.min, IntKind.max, IntKind.signed, IntKind.bits] using h
  exact ⟨a.toNat, by omega, by omega⟩
theorem u8_up {a : Int} (h : (Lit.int .u8 a).wf = true) : ∃ n : Nat, a = n ∧ n < 256 := by
  have h' : 0 ≤ a ∧ a ≤ 255 := by simpa [Lit.wf, IntKind.min, IntKind.max, IntKind.signed, IntKind.bits] using h
  exact ⟨a.toNat, by omega, by omega⟩
end Go.By
namespace Go.Proofs.Ytajfcnaifegonaa.Sl.Nd
open Go Go.ChangeShapes Go.WideShapes Go.ChangeAt Go.RowKit Go.By
set_option maxRecDepth 100000 in
theorem bulkFails_lifted (os : Os) (started : os.Started) (H : Type) (enc : TypeId × Value → H) :
    ReturnsInHanded {} Try.checked os 4 .any (Rows.bulkFailsSpec.pre6 enc Try.prog Try.f4 Rows.bulkFailsRow.domain false) (Rows.bulkFailsSpec.post enc Try.prog Try.f4 false true false false) := by
  refine returnsInHanded_of_change (C := Try.checked) own_none started (by kernel_rfl) Try.func4
    (ChangeSpec.witness6 (enc := enc) (C := Try.checked) false ⟨#[], #[.int .u16 0, .int .u8 0], []⟩ 8 (by kernel_rfl) (by kernel_rfl) (by kernel_rfl) (by kernel_rfl)) ?_
  intro W base args ds gs before hval0 hW hcnd _
  have hval : ∀ (j : Nat) t v, Try.f4.params[j]? = some t → args[j]? = some v → Value.okWide Try.prog W .any base t v := hval0
  have hW' := hW
  obtain ⟨p, q, hA0, hV, rfl, hfz, hnd⟩ := hW
  have hA : DataW.TrodAll enc Try.prog W 0 (fun _ => true) true Try.f4.params.toList args.toList ds p := hA0
  have hp : Try.f4.params = #[22, 5] := by kernel_rfl
  rw [hp] at hA hval
  obtain ⟨v0, v1, d0, d1, p0, p1, rfl, rfl, rfl, h0, h1⟩ := trodAll_two hA
  obtain ⟨rfl, rfl⟩ := trodVars_none hV
  obtain ⟨a, rfl, _, _, wa⟩ := open_int (P := Try.prog) (t := 22) (k := .u16) (by kernel_rfl) (hval 0 22 v0 rfl rfl) h0
  obtain ⟨b, rfl, _, _, wb⟩ := open_int (P := Try.prog) (t := 5) (k := .u8) (by kernel_rfl) (hval 1 5 v1 rfl rfl) h1
  obtain ⟨n, rfl, hn⟩ := u16_up wa
  obtain ⟨m, rfl, hm⟩ := u8_up wb
  refine (bulkFails_any n m hn hm W).mono fun e W' ⟨he, hb⟩ => ?_
  subst he
  exact ⟨_, rfl, law_post (tb := 4) laidOut (by rw [hp]; intro t ht; simp at ht; rcases ht with rfl | rfl <;> exact ⟨by kernel_rfl, by decide +kernel⟩) rfl rfl (by kernel_rfl) (by kernel_rfl) hW' hb⟩
theorem bulkFails_holds : Rows.BulkFailsSaid :=
  OpenClaim.holds_of_wide 4 Try.f4 rfl rfl rfl rfl rfl rfl rfl ⟨rfl, rfl, rfl, rfl, rfl⟩ rfl rfl rfl rfl rfl (by kernel_rfl) Try.func4 (by kernel_rfl)
    (of_decide_eq_true (by kernel_rfl)) (by unfold Func.isWrapper; rw [if_neg (by decide +kernel)]; exact ⟨rfl, rfl⟩)
    (fun os started H enc _ => bulkFails_lifted os started H enc)
end Go.Proofs.Ytajfcnaifegonaa.Sl.Nd
