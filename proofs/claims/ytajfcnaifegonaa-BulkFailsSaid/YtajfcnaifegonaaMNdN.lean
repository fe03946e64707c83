/- Nodes in a program: numbers and texts, laid. -/
import Derived.Test.YtajfcnaifegonaaMCmpM
import Derived.Test.YtajfcnaifegonaaMGrw
import Derived.Test.YtajfcnaifegonaaMBkA
import Derived.Deep.RegionWith
namespace Go.Proofs.Ytajfcnaifegonaa.Sl.Nd
open Go Go.RowKit Go.By
theorem highOf_at (n : Nat) : ∀ (v k : Nat), k < n → (highOf v n)[k]? = some (v / 256 ^ (n - 1 - k) % 256) := by
  induction n with
  | zero => intro v k h; omega
  | succ n ih =>
    intro v k h
    rw [highOf]
    by_cases hk : k < n
    · rw [List.getElem?_append_left (by rw [highOf_length]; exact hk), ih _ _ hk, Nat.div_div_eq_div_mul, show n + 1 - 1 - k = (n - 1 - k) + 1 by omega, Nat.pow_succ, Nat.mul_comm]
    · obtain rfl : k = n := by omega
      rw [List.getElem?_append_right (by rw [highOf_length]; omega), highOf_length]
      simp
theorem highOf_take {v n k : Nat} (h : k < n) : (highOf v n).take (k + 1) = (highOf v n).take k ++ [v / 256 ^ (n - 1 - k) % 256] := by
  have hl : k < (highOf v n).length := by rw [highOf_length]; exact h
  rw [List.take_succ_eq_append_getElem hl]
  have := highOf_at n v k h
  rw [List.getElem?_eq_getElem hl] at this
  rw [Option.some.inj this]
def RowsG (w : World) (base : Nat) (v : Value) (m : List Nat) (e : Ending) (w' : World) : Prop :=
  ∃ v', e = .returned v' ∧ w'.ownsRow base 5 1 v' m.length (cellsOf m) ∧ Grows w w' v v'
def NumAt (w0 : World) (base n : Nat) (l : List Nat) (v : Value) (x i : Value) (w : World) : Prop :=
  ∃ k : Nat, k ≤ 8 ∧ i = .int .i64 k ∧ w.ownsRow base 5 1 x (l ++ (highOf n 8).take k).length (cellsOf (l ++ (highOf n 8).take k)) ∧ Grows w0 w v x
set_option maxRecDepth 100000 in
theorem putNumber_any (n : Nat) (hn : n < 9223372036854775808) (v : Value) (l : List Nat) (base : Nat) (w : World) (hv : w.ownsRow base 5 1 v l.length (cellsOf l)) (hl : l.length ≤ 100000) (hb : base ≤ w.heap.size) :
    Calls Try.prog 93 #[v, .int .u64 n] w (RowsG w base v (l ++ highOf n 8)) := by
  have hn1 : (n : Int) ≤ 9223372036854775807 := by omega
  have HN := Lib.hid hn; clear hn
  have h0 : NumAt w base n l v v (.int .i64 (0 : Nat)) w := ⟨0, by omega, rfl, by simpa using hv, Grows.refl _ _⟩
  have H0 := Lib.hid h0
  clear h0 hv
  go_enter Try.func93, Try.ntmps93
  go_wp2
  go_loopw [0, 6] (fun x i wr => NumAt w base n l v x i wr) (fun _ i _ => 8 - (intOf i).toNat)
  case atStart => exact H0.out
  case round =>
    clear H0
    obtain ⟨k, hk, rfl, hown, hbel⟩ := hrel
    have hsz := hbel.by_.size
    obtain ⟨p, cap, rfl⟩ := shape_of hown
    by_cases hlt : k < 8
    · obtain ⟨j, hj⟩ : ∃ j, j = 7 - k := ⟨_, rfl⟩
      have hj1 : (7 : Int) - (k : Int) = j := by omega
      have hsh : (n : Int) / 2 ^ (8 * (j : Int)).toNat = ((n / 256 ^ j : Nat) : Int) := by
        have : (8 * (j : Int)).toNat = 8 * j := by omega
        rw [this, show 256 ^ j = 2 ^ (8 * j) by rw [Nat.pow_mul], Int.natCast_ediv, Int.natCast_pow]
        rfl
      have htk := highOf_take (v := n) hlt
      rw [show 8 - 1 - k = j by omega] at htk
      have hxn : n / 256 ^ j ≤ n := Nat.div_le_self _ _
      have hw8 : IntKind.u8.wrap ((n / 256 ^ j : Nat) : Int) = ((n / 256 ^ j % 256 : Nat) : Int) := by rw [IntKind.wrap_u8]; omega
      generalize hx : n / 256 ^ j = x at *
      have hx1 : (x : Int) ≤ 9223372036854775807 := by omega
      have hlen : (l ++ (highOf n 8).take k).length ≤ 100008 := by rw [List.length_append, List.length_take]; omega
      have HT : Hid (l ++ (highOf n 8).take (k + 1) = (l ++ (highOf n 8).take k) ++ [x % 256]) := by unfold Hid; rw [htk, List.append_assoc]
      generalize hm : l ++ (highOf n 8).take k = m at *
      have HO := Lib.hid hown; have HB := Lib.hid hbel
      have hlm : (m.length : Int) ≤ 100008 := by omega
      have hbs : base ≤ wr.heap.size := by omega
      have hjl : (j : Int) ≤ 7 := by omega
      obtain ⟨v2, w2, hrun, hown2, hg2⟩ := run_append_byt (P := Try.prog) 31 byT base (.slice p m.length cap) m.length (cellsOf m) (HO.out.alloc (.cells #[.int .u8 (x % 256 : Nat)] 5)) (.slice (some ⟨wr.heap.size, 0, none⟩) 1 1) [x % 256] (Bytes.one (by omega) (by omega)) (by simp; omega) (by simp; omega)
      have ho2 : w2.ownsRow base 5 1 v2 (m ++ [x % 256]).length (cellsOf (m ++ [x % 256])) := by
        rw [List.length_append, cellsOf_append]; exact hown2
      rw [← HT.out] at ho2
      have hrel2 : NumAt w base n l v v2 (.int .i64 (k + 1 : Nat)) w2 := ⟨k + 1, by omega, rfl, ho2, HB.out.trans ((Grows.alloc _ _ _).trans hg2)⟩
      have HR := Lib.hid hrel2; have HRUN := Lib.hid hrun
      clear hown hbel htk hxn hx hm hj hlen hown2 hg2 ho2 hrel2 hrun
      go_wp2_with (at_builtin; refine Lib.wpList_append_run _ rfl (.tmp 9) (.tmp 16) 31 31 rfl _ _ rfl rfl v2 w2 HRUN.out ?_)
      go_roundw
      case rel => exact HR.out
      case measure => simp [intOf]; omega
    · obtain rfl : k = 8 := by omega
      rw [List.take_of_length_le (by rw [highOf_length]; omega)] at hown
      have HO := Lib.hid hown; have HB := Lib.hid hbel
      clear hown hbel
      go_wp2
      go_ret
      exact ⟨_, rfl, by simpa [List.length_take, highOf_length] using HO.out, HB.out⟩
set_option maxRecDepth 100000 in
theorem putText_any (v xv : Value) (l m : List Nat) (base : Nat) (w : World) (hv : w.ownsRow base 5 1 v l.length (cellsOf l)) (hl : l.length ≤ 1000000) (hb : base ≤ w.heap.size) (hx : Bytes w xv m) (hne : m ≠ [] → xv.ownBlock ≠ v.ownBlock) (hm : m.length ≤ 255) :
    Calls Try.prog 92 #[v, xv] w (RowsG w base v (l ++ txt m)) := by
  obtain ⟨p, cap, rfl⟩ := shape_of hv
  have HV := Lib.hid hv; clear hv
  have hm' : (m.length : Int) ≤ 255 := by omega
  have hw8 : IntKind.u8.wrap (m.length : Int) = m.length := by rw [IntKind.wrap_u8]; omega
  obtain ⟨v1, w1, hrun, hown1, hg1⟩ := run_append_byt (P := Try.prog) 31 byT base (.slice p l.length cap) l.length (cellsOf l) (HV.out.alloc (.cells #[.int .u8 (m.length : Nat)] 5)) (.slice (some ⟨w.heap.size, 0, none⟩) 1 1) [m.length] (Bytes.one rfl (by omega)) (by simp; omega) (by simp; omega)
  have hga := (Grows.alloc w (.slice p l.length cap) (.cells #[.int .u8 (m.length : Nat)] 5)).trans hg1
  have ho1 : w1.ownsRow base 5 1 v1 (l ++ [m.length]).length (cellsOf (l ++ [m.length])) := by
    rw [List.length_append, cellsOf_append]; exact hown1
  have hz := hga.by_.size
  have hx1 : Bytes w1 xv m := by
    refine ⟨?_, hx.small, hx.short⟩
    rcases hx.out with h | h | ⟨b, o, c, rfl, hc, hcell⟩
    · exact .inl h
    · exact .inr (.inl h)
    · refine .inr (.inr ⟨b, o, c, rfl, hc, fun i hi => ?_⟩)
      have h0 := hcell i hi
      have hb' : b < w.heap.size := block_lt_of_cell h0
      exact (World.cell?_of_block (a := ⟨b, o + i, none⟩) (hga.block hb' (by
        intro e
        exact hne (by intro e0; subst e0; exact absurd hi (Nat.not_lt_zero _)) (by rw [e]; rfl)))).trans h0
  obtain ⟨q, cq, rfl, _⟩ := hx.any
  obtain ⟨v2, w2, hrun2, ho2, hg2⟩ := run_append_byt (P := Try.prog) 31 byT base v1 (l ++ [m.length]).length (cellsOf (l ++ [m.length])) ho1 (.slice q m.length cq) m hx1 (by rw [List.length_append]; simp; omega) (by omega)
  have ho3 : w2.ownsRow base 5 1 v2 (l ++ txt m).length (cellsOf (l ++ txt m)) := by
    have e : l ++ txt m = (l ++ [m.length]) ++ m := by unfold txt; simp
    rw [e, List.length_append, cellsOf_append]
    exact ho2
  have HR1 := Lib.hid hrun; have HR2 := Lib.hid hrun2; have HO := Lib.hid ho3; have HB := Lib.hid (hga.trans hg2)
  clear hrun hrun2 ho3 ho2 hg2 ho1 hown1 hg1 hga hz HV hx hx1 hne
  go_enter Try.func92, Try.ntmps92
  go_wp2_with first
    | (at_builtin; refine Lib.wpList_append_run _ rfl (.tmp 5) (.tmp 9) 31 31 rfl _ _ rfl rfl v1 w1 HR1.out ?_)
    | (at_builtin; refine Lib.wpList_append_run _ rfl (.tmp 10) (.tmp 11) 31 31 rfl _ _ rfl rfl v2 w2 HR2.out ?_)
  go_ret
  exact ⟨_, rfl, HO.out, HB.out⟩
end Go.Proofs.Ytajfcnaifegonaa.Sl.Nd
/- Nodes in a program: what is put. -/
namespace Go.By
open Go Go.RowKit
theorem Bytes.old {w : World} {v : Value} {l : List Nat} (h : Bytes w v l) (h0 : l ≠ []) : ∀ k, v.ownBlock = some k → k < w.heap.size := by
  intro k hk
  obtain ⟨p, c, rfl, _⟩ := h.any
  have hp : 0 < l.length := List.length_pos_iff.2 h0
  obtain ⟨b, o, rfl, hc⟩ := h.spot 0 hp
  simp only [Value.ownBlock, Option.some.injEq] at hk
  subst hk
  exact block_lt_of_cell hc
theorem flat_next {α : Type} {f : α → List Nat} {xs : List α} {k : Nat} (h : k < xs.length) : (xs.take (k + 1)).flatMap f = (xs.take k).flatMap f ++ f xs[k] := by
  rw [List.take_succ_eq_append_getElem h, List.flatMap_append]
  simp
end Go.By
namespace Go.Proofs.Ytajfcnaifegonaa.Sl.Nd
open Go Go.RowKit Go.By
theorem flat_take {α : Type} {f : α → List Nat} {b k : Nat} {xs : List α} (h : ∀ x ∈ xs, (f x).length ≤ b) : ((xs.take k).flatMap f).length ≤ b * xs.length := by
  refine Nat.le_trans (flat_length (fun x hx => h x (List.mem_of_mem_take hx))) (Nat.mul_le_mul_left _ ?_)
  rw [List.length_take]
  omega
def Rows (w : World) (m : List Nat) (e : Ending) (w' : World) : Prop :=
  ∃ v', e = .returned v' ∧ w'.ownsRow w.heap.size 5 1 v' m.length (cellsOf m) ∧ Below w.heap.size w w'
def LfSz (w : World) (its : List NIt) (s i : Value) (wr : World) : Prop :=
  ∃ k : Nat, k ≤ its.length ∧ i = .int .i64 k ∧ s = .int .i64 (2 + ((its.take k).flatMap itOf).length : Nat) ∧ Below w.heap.size w wr
def LfRow (w : World) (its : List NIt) (x i : Value) (wr : World) : Prop :=
  ∃ k : Nat, k ≤ its.length ∧ i = .int .i64 k ∧ wr.ownsRow w.heap.size 5 1 x ([76, its.length] ++ (its.take k).flatMap itOf).length (cellsOf ([76, its.length] ++ (its.take k).flatMap itOf)) ∧ Below w.heap.size w wr
set_option maxRecDepth 100000 in
set_option maxHeartbeats 1000000 in
theorem putLeaf_any (p : Option Addr) (cap : Nat) (its : List NIt) (w : World) (h : RowAt KItem w p cap its) (hm : ∀ i ∈ its, mayIt i = true) (h8 : its.length ≤ 8) :
    Calls Try.prog 83 #[.slice p its.length cap] w (Rows w (76 :: its.length :: its.flatMap itOf)) := by
  have h0 : LfSz w its (.int .i64 2) (.int .i64 (0 : Nat)) w := ⟨0, by omega, rfl, rfl, Below.refl _ _⟩
  have hbd : ∀ x ∈ its, (itOf x).length ≤ 162 := fun x hx => by
    obtain ⟨q1, q2⟩ := (mayIt_iff _).1 (hm x hx)
    have := ((mayK_iff _).1 q1).2
    simp [itOf, txt]; omega
  have H0 := Lib.hid h0; have HR := Lib.hid h; have HM := Lib.hid hm
  have HBD : Hid (∀ k, ((its.take k).flatMap itOf).length ≤ 1296) := fun k => Nat.le_trans (flat_take hbd) (by omega)
  obtain ⟨N, hN⟩ : ∃ N, N = its.length := ⟨_, rfl⟩
  have hN8 : (N : Int) ≤ 8 := by omega
  have HN := Lib.hid hN
  rw [← hN]
  clear h0 h hN hm hbd h8
  go_enter Try.func83, Try.ntmps83
  go_wp2
  go_loopw [3, 11] (fun s i W => LfSz w its s i W) (fun _ i _ => N - (intOf i).toNat)
  case atStart => exact H0.out
  case round =>
    clear H0
    obtain ⟨k, hk, rfl, rfl, hB⟩ := hrel
    by_cases hlt : k < N
    · have hkl : k < its.length := by rw [← HN.out]; exact hlt
      obtain ⟨lb, lo, rfl, hat⟩ := HR.out.some (by omega)
      obtain ⟨cs, hc, a, b, rfl, ha, hb⟩ := hat k hkl
      obtain ⟨c0, c1⟩ := (hc.below hB).two
      simp only [KItem] at c0 c1
      obtain ⟨qa, ca, rfl, -⟩ := ha.any
      obtain ⟨qb, cb, rfl, -⟩ := hb.any
      obtain ⟨q1, q2⟩ := (mayIt_iff _).1 (HM.out its[k] (List.getElem_mem hkl))
      have q3 := ((mayK_iff _).1 q1).2
      have hS : 2 + ((its.take (k + 1)).flatMap itOf).length = 2 + ((its.take k).flatMap itOf).length + (2 + its[k].k.length + its[k].v.length) := by
        rw [flat_next hkl, List.length_append]
        simp [itOf, txt]; omega
      have hS2 : 2 + ((its.take k).flatMap itOf).length ≤ 1298 := by have := HBD.out k; omega
      generalize 2 + ((its.take k).flatMap itOf).length = S at *
      generalize its[k].k.length = l1 at *
      generalize its[k].v.length = l2 at *
      have hSi : (S : Int) ≤ 1298 := by omega
      have hl1 : (l1 : Int) ≤ 40 := by omega
      have hl2 : (l2 : Int) ≤ 120 := by omega
      have HNX : Hid (LfSz w its (.int .i64 (S + (2 + l1 + l2) : Nat)) (.int .i64 (k + 1 : Nat)) (wr.alloc (.cells #[.slice qa l1 ca, .slice qb l2 cb] 34))) := ⟨k + 1, by omega, rfl, by rw [hS], hB.alloc hB.size _⟩
      have HLT := Lib.hid hlt
      clear hS hS2 q1 q2 q3 ha hb hc hat hB
      go_wp2
      go_roundw
      case rel => exact HNX.out
      case measure => simp [intOf]; have := HLT.out; omega
    · have hkl : ¬ k < its.length := by rw [← HN.out]; exact hlt
      obtain rfl : k = N := by have := HN.out; omega
      have hS2 : 2 + ((its.take k).flatMap itOf).length ≤ 1298 := by have := HBD.out k; omega
      generalize 2 + ((its.take k).flatMap itOf).length = S at *
      obtain ⟨wm, hwm⟩ : ∃ W, W = wr.alloc (.cells (zeros S) 5) := ⟨_, rfl⟩
      have hmk := made_run 0 S 0 (S : Int) rfl rfl (by omega) (by omega) wr
      rw [← hwm] at hmk
      have hbm : Below w.heap.size w wm := by rw [hwm]; exact hB.alloc hB.size _
      have hom : wm.ownsRow w.heap.size 5 1 (.slice (some ⟨wr.heap.size, 0, none⟩) 0 S) 0 [] := by rw [hwm]; exact World.ownsRow_made wr (zeros S) S hB.size (by unfold maxLen; omega) (by rw [zeros_size, Nat.mul_one])
      have hw8 : IntKind.u8.wrap (k : Int) = k := by rw [IntKind.wrap_u8]; omega
      obtain ⟨v1, w1, hrun, ho1, hg1⟩ := run_append_byt (P := Try.prog) 31 byT w.heap.size (.slice (some ⟨wr.heap.size, 0, none⟩) 0 S) 0 [] (hom.alloc (.cells #[.int .u8 76, .int .u8 (k : Nat)] 5)) (.slice (some ⟨wm.heap.size, 0, none⟩) 2 2) [76, k] (Bytes.lit [76, k] rfl rfl (by simp; omega) (by simp [maxLen])) (by simp) (by have := hbm.size; simp; omega)
      have hb1 : Below w.heap.size w w1 := ((Grows.alloc wm (.slice (some ⟨wr.heap.size, 0, none⟩) 0 S) (.cells #[.int .u8 76, .int .u8 (k : Nat)] 5)).trans hg1).below hbm hbm.size (fun j hj => (hom.lt j hj).1)
      have hrow : LfRow w its v1 (.int .i64 (0 : Nat)) w1 := ⟨0, by omega, rfl, by rw [← HN.out]; simpa using ho1, hb1⟩
      have HROW := Lib.hid hrow; have HRUN := Lib.hid hrun
      have hSi : (S : Int) ≤ 1298 := by omega
      clear hrow hrun ho1 hg1 hb1 hom hbm hwm hS2 hB hlt hkl hk
      go_wp2_with (at_builtin; refine Lib.wpList_append_run _ rfl (.tmp 27) (.tmp 31) 31 31 rfl _ _ rfl rfl v1 w1 HRUN.out ?_)
      clear HRUN hmk
      go_loopw [6, 35] (fun x i W => LfRow w its x i W) (fun _ i _ => k - (intOf i).toNat)
      case atStart => exact HROW.out
      case round =>
        clear HROW
        obtain ⟨j, hj, rfl, hown, hB⟩ := hrel
        obtain ⟨px, cx, rfl⟩ := shape_of hown
        by_cases hlj : j < k
        · have hkl : j < its.length := by rw [← HN.out]; exact hlj
          obtain ⟨lb, lo, rfl, hat⟩ := HR.out.some (by omega)
          obtain ⟨cs, hc, a, b, rfl, ha, hb⟩ := hat j hkl
          obtain ⟨c0, c1⟩ := (hc.below hB).two
          simp only [KItem] at c0 c1
          obtain ⟨qa, ca, rfl, -⟩ := ha.any
          obtain ⟨qb, cb, rfl, -⟩ := hb.any
          obtain ⟨q1, q2⟩ := (mayIt_iff _).1 (HM.out its[j] (List.getElem_mem hkl))
          have q3 := ((mayK_iff _).1 q1).2
          have hL : ([76, its.length] ++ (its.take j).flatMap itOf).length ≤ 1298 := by have := HBD.out j; simp only [List.length_append, List.length_cons, List.length_nil]; omega
          have hnx : [76, its.length] ++ (its.take (j + 1)).flatMap itOf = ([76, its.length] ++ (its.take j).flatMap itOf ++ txt its[j].k) ++ txt its[j].v := by rw [flat_next hkl]; simp [itOf]
          have hlt' := hown.lt
          generalize [76, its.length] ++ (its.take j).flatMap itOf = L at *
          generalize hit : its[j] = it at *
          have hown1 := hown.alloc (.cells #[.slice qa it.k.length ca, .slice qb it.v.length cb] 34)
          have hB1 := hB.alloc hB.size (.cells #[.slice qa it.k.length ca, .slice qb it.v.length cb] 34)
          have hblk := heap_alloc_new wr (.cells #[.slice qa it.k.length ca, .slice qb it.v.length cb] 34)
          have hT1 := putText_any (.slice px L.length cx) (.slice qa it.k.length ca) L it.k w.heap.size _ hown1 (by omega) hB1.size (ha.below hB1) (fun h0 e => by
            cases px with
            | none => exact absurd (ha.spot 0 (List.length_pos_iff.2 h0)) (by intro ⟨b, o, e2, _⟩; subst e2; simp [Value.ownBlock] at e)
            | some ax =>
              have := (hlt' ax.block rfl).1
              have := ha.old h0 ax.block (by rw [e]; rfl)
              omega) (by omega)
          have HT1 := Lib.hid hT1; have HB1 := Lib.hid hB1; have HBV := Lib.hid hb; have HNX := Lib.hid hnx; have HLJ := Lib.hid hlj; have HLT' := Lib.hid hlt'; have HBK := Lib.hid hblk
          have HQ2 := Lib.hid q2
          have HL : Hid (L.length + (txt it.k).length ≤ 2000) := by unfold Hid; rw [txt_length]; omega
          clear hT1 hB1 hb ha hblk hown1 hlt' hnx hL q1 q2 q3 hc hat hown hB hit hkl
          go_wp2_with fail
          refine HT1.out.mono ?_
          rintro e w2 ⟨v2, rfl, ho2, hg2⟩
          have hb2 : Below w.heap.size w w2 := hg2.below HB1.out HB1.out.size (fun i hi => (HLT'.out i hi).1)
          have hbk2 : w2.heap[wr.heap.size]? = some (.cells #[.slice qa it.k.length ca, .slice qb it.v.length cb] 34 (0, 0)) := (hg2.block (by simp) (by intro e; have := (HLT'.out _ e).2; omega)).trans HBK.out
          have e0 := cells_of hbk2 0
          have e1 := cells_of hbk2 1
          simp only [List.getElem?_toArray, List.getElem?_cons_zero, List.getElem?_cons_succ] at e0 e1
          obtain ⟨M, hM⟩ : ∃ M, M = L ++ txt it.k := ⟨_, rfl⟩
          rw [← hM] at ho2
          have HMM := Lib.hid hM
          have hML : M.length ≤ 2000 := by rw [hM, List.length_append]; exact HL.out
          have hlt2 := ho2.lt
          obtain ⟨p2, c2, rfl⟩ := shape_of ho2
          have hT2 := putText_any (.slice p2 M.length c2) (.slice qb it.v.length cb) M it.v w.heap.size w2 ho2 (by omega) hb2.size (HBV.out.below hb2) (fun h0 e => by
            cases p2 with
            | none => exact absurd (HBV.out.spot 0 (List.length_pos_iff.2 h0)) (by intro ⟨b, o, e2, _⟩; subst e2; simp [Value.ownBlock] at e)
            | some ax =>
              have := (hlt2 ax.block rfl).1
              have := HBV.out.old h0 ax.block (by rw [e]; rfl)
              omega) (by have := HQ2.out; omega)
          have HT2 := Lib.hid hT2; have HB2 := Lib.hid hb2; have HLT2 := Lib.hid hlt2
          clear hT2 hb2 hbk2 hlt2 ho2 hg2 HT1 HBK c0 c1 hM hML
          go_wp2_with fail
          refine HT2.out.mono ?_
          rintro e w3 ⟨v3, rfl, ho3, hg3⟩
          have hrow3 : LfRow w its v3 (.int .i64 (j + 1 : Nat)) w3 := ⟨j + 1, by have := HN.out; have := HLJ.out; omega, rfl, by rw [HNX.out, ← HMM.out]; exact ho3, hg3.below HB2.out HB2.out.size (fun i hi => (HLT2.out i hi).1)⟩
          have HROW := Lib.hid hrow3
          clear hrow3 ho3 hg3 HT2 e0 e1
          go_wp2
          go_roundw
          case rel => exact HROW.out
          case measure => simp [intOf]; have := HLJ.out; omega
        · have hjk : j = k := by have := HN.out; omega
          have hE : [76, its.length] ++ (its.take j).flatMap itOf = 76 :: k :: its.flatMap itOf := by
            rw [List.take_of_length_le (by rw [← HN.out]; omega), ← HN.out]; rfl
          rw [hE] at hown ⊢
          have HO := Lib.hid hown; have HB := Lib.hid hB
          clear hown hB hE hj
          subst hjk
          go_wp2
          go_ret
          exact ⟨_, rfl, HO.out, HB.out⟩
end Go.Proofs.Ytajfcnaifegonaa.Sl.Nd
/- Nodes in a program: inner ones, laid; Put. -/
namespace Go.Proofs.Ytajfcnaifegonaa.Sl.Nd
open Go Go.RowKit Go.By
def InSz (w : World) (xs : List (List Nat × NKd)) (s i : Value) (wr : World) : Prop :=
  ∃ k : Nat, k ≤ xs.length ∧ i = .int .i64 k ∧ s = .int .i64 (2 + ((xs.take k).flatMap kdOf).length : Nat) ∧ Below w.heap.size w wr
def InRow (w : World) (xs : List (List Nat × NKd)) (x i : Value) (wr : World) : Prop :=
  ∃ k : Nat, k ≤ xs.length ∧ i = .int .i64 k ∧ wr.ownsRow w.heap.size 5 1 x ([78, xs.length] ++ (xs.take k).flatMap kdOf).length (cellsOf ([78, xs.length] ++ (xs.take k).flatMap kdOf)) ∧ Below w.heap.size w wr
theorem zip_at {α β : Type} {a : List α} {b : List β} {k : Nat} (ha : k < a.length) (hb : k < b.length) (h : k < (a.zip b).length) : (a.zip b)[k] = (a[k], b[k]) := by
  simp
set_option maxRecDepth 100000 in
set_option maxHeartbeats 1000000 in
theorem putInner_any (p q : Option Addr) (cap caq : Nat) (ks : List (List Nat)) (kids : List NKd) (w : World) (h : RowAt KBytes w p cap ks) (h' : RowAt KRef w q caq kids) (hl : ks.length = kids.length) (hm : ∀ k ∈ ks, mayK k = true) (hm' : ∀ d ∈ kids, mayKd d = true) (h8 : kids.length ≤ 8) :
    Calls Try.prog 84 #[.slice p ks.length cap, .slice q kids.length caq] w (Rows w (78 :: kids.length :: (ks.zip kids).flatMap kdOf)) := by
  have h0 : InSz w (ks.zip kids) (.int .i64 2) (.int .i64 (0 : Nat)) w := ⟨0, by omega, rfl, rfl, Below.refl _ _⟩
  have hbd : ∀ x ∈ ks.zip kids, (kdOf x).length ≤ 57 := fun x hx => by
    have hk : x.1 ∈ ks := (List.of_mem_zip (a := x.1) (b := x.2) hx).1
    have := ((mayK_iff _).1 (hm _ hk)).2
    simp [kdOf, txt, highOf_length]; omega
  have hzl : (ks.zip kids).length = kids.length := by rw [List.length_zip]; omega
  have HZ : Hid (∀ k (hk : k < ks.length) (hk' : k < kids.length), (ks.zip kids)[k]? = some (ks[k], kids[k])) := fun k hk hk' => by
    have hz : k < (ks.zip kids).length := by rw [hzl]; exact hk'
    rw [List.getElem?_eq_getElem hz, zip_at hk hk']
  have H0 := Lib.hid h0; have HR := Lib.hid h; have HR' := Lib.hid h'; have HM := Lib.hid hm; have HM' := Lib.hid hm'
  have HBD : Hid (∀ k, (((ks.zip kids).take k).flatMap kdOf).length ≤ 456) := fun k => Nat.le_trans (flat_take hbd) (by rw [hzl]; omega)
  obtain ⟨N, hN⟩ : ∃ N, N = kids.length := ⟨_, rfl⟩
  have hN8 : (N : Int) ≤ 8 := by omega
  have HN := Lib.hid hN
  have HK : Hid (N = ks.length) := by unfold Hid; omega
  have HZL : Hid (N = (ks.zip kids).length) := by unfold Hid; omega
  rw [hl, ← hN]
  generalize hxs : ks.zip kids = xs at *
  clear h0 h h' hN hm hm' hbd h8 hl hzl hxs
  go_enter Try.func84, Try.ntmps84
  go_wp2
  go_loopw [5, 13] (fun s i W => InSz w xs s i W) (fun _ i _ => N - (intOf i).toNat)
  case atStart => exact H0.out
  case round =>
    clear H0
    obtain ⟨k, hk, rfl, rfl, hB⟩ := hrel
    by_cases hlt : k < N
    · have hkl : k < ks.length := by rw [← HK.out]; exact hlt
      have hkd : k < kids.length := by rw [← HN.out]; exact hlt
      have hkx : k < xs.length := by rw [← HZL.out]; exact hlt
      obtain ⟨lb, lo, rfl, hat⟩ := HR.out.some (by omega)
      obtain ⟨cs, hc, a, rfl, ha⟩ := hat k hkl
      have c0 := (hc.below hB).one
      simp only [KBytes, Nat.mul_one] at c0
      obtain ⟨qa, ca, rfl, -⟩ := ha.any
      have q3 := ((mayK_iff _).1 (HM.out ks[k] (List.getElem_mem hkl))).2
      have hS : 2 + ((xs.take (k + 1)).flatMap kdOf).length = 2 + ((xs.take k).flatMap kdOf).length + (1 + ks[k].length + 16) := by
        have hz := HZ.out k hkl hkd
        rw [List.getElem?_eq_getElem hkx] at hz
        rw [flat_next hkx, List.length_append, Option.some.inj hz]
        simp [kdOf, txt, highOf_length]; omega
      have hS2 : 2 + ((xs.take k).flatMap kdOf).length ≤ 458 := by have := HBD.out k; omega
      generalize 2 + ((xs.take k).flatMap kdOf).length = S at *
      generalize ks[k].length = l1 at *
      have hSi : (S : Int) ≤ 458 := by omega
      have hl1 : (l1 : Int) ≤ 40 := by omega
      have HNX : Hid (InSz w xs (.int .i64 (S + (1 + l1 + 16) : Nat)) (.int .i64 (k + 1 : Nat)) wr) := ⟨k + 1, by omega, rfl, by rw [hS], hB⟩
      have HLT := Lib.hid hlt
      clear hS hS2 q3 ha hc hat hB
      go_wp2
      go_roundw
      case rel => exact HNX.out
      case measure => simp [intOf]; have := HLT.out; omega
    · have hkl : ¬ k < xs.length := by rw [← HZL.out]; exact hlt
      obtain rfl : k = N := by have := HZL.out; omega
      have hS2 : 2 + ((xs.take k).flatMap kdOf).length ≤ 458 := by have := HBD.out k; omega
      generalize 2 + ((xs.take k).flatMap kdOf).length = S at *
      obtain ⟨wm, hwm⟩ : ∃ W, W = wr.alloc (.cells (zeros S) 5) := ⟨_, rfl⟩
      have hmk := made_run 0 S 0 (S : Int) rfl rfl (by omega) (by omega) wr
      rw [← hwm] at hmk
      have hbm : Below w.heap.size w wm := by rw [hwm]; exact hB.alloc hB.size _
      have hom : wm.ownsRow w.heap.size 5 1 (.slice (some ⟨wr.heap.size, 0, none⟩) 0 S) 0 [] := by rw [hwm]; exact World.ownsRow_made wr (zeros S) S hB.size (by unfold maxLen; omega) (by rw [zeros_size, Nat.mul_one])
      have hw8 : IntKind.u8.wrap (k : Int) = k := by rw [IntKind.wrap_u8]; omega
      obtain ⟨v1, w1, hrun, ho1, hg1⟩ := run_append_byt (P := Try.prog) 31 byT w.heap.size (.slice (some ⟨wr.heap.size, 0, none⟩) 0 S) 0 [] (hom.alloc (.cells #[.int .u8 78, .int .u8 (k : Nat)] 5)) (.slice (some ⟨wm.heap.size, 0, none⟩) 2 2) [78, k] (Bytes.lit [78, k] rfl rfl (by simp; omega) (by simp [maxLen])) (by simp) (by have := hbm.size; simp; omega)
      have hb1 : Below w.heap.size w w1 := ((Grows.alloc wm (.slice (some ⟨wr.heap.size, 0, none⟩) 0 S) (.cells #[.int .u8 78, .int .u8 (k : Nat)] 5)).trans hg1).below hbm hbm.size (fun j hj => (hom.lt j hj).1)
      have hrow : InRow w xs v1 (.int .i64 (0 : Nat)) w1 := ⟨0, by omega, rfl, by rw [← HZL.out]; simpa using ho1, hb1⟩
      have HROW := Lib.hid hrow; have HRUN := Lib.hid hrun
      have hSi : (S : Int) ≤ 458 := by omega
      clear hrow hrun ho1 hg1 hb1 hom hbm hwm hS2 hB hlt hkl hk
      go_wp2_with (at_builtin; refine Lib.wpList_append_run _ rfl (.tmp 25) (.tmp 29) 31 31 rfl _ _ rfl rfl v1 w1 HRUN.out ?_)
      clear HRUN hmk
      go_loopw [8, 33] (fun x i W => InRow w xs x i W) (fun _ i _ => k - (intOf i).toNat)
      case atStart => exact HROW.out
      case round =>
        clear HROW
        obtain ⟨j, hj, rfl, hown, hB⟩ := hrel
        obtain ⟨px, cx, rfl⟩ := shape_of hown
        by_cases hlj : j < k
        · have hkl : j < ks.length := by rw [← HK.out]; exact hlj
          have hkd : j < kids.length := by rw [← HN.out]; exact hlj
          have hkx : j < xs.length := by rw [← HZL.out]; exact hlj
          obtain ⟨lb, lo, rfl, hat⟩ := HR.out.some (by omega)
          obtain ⟨cs, hc, a, rfl, ha⟩ := hat j hkl
          obtain ⟨lb', lo', rfl, hat'⟩ := HR'.out.some (by omega)
          obtain ⟨cs', hc', rfl, hoff, hct⟩ := hat' j hkd
          obtain ⟨d0, d1⟩ := (hc'.below hB).two
          simp only [KRef] at d0 d1
          obtain ⟨qa, ca, rfl, -⟩ := ha.any
          have q3 := ((mayK_iff _).1 (HM.out ks[j] (List.getElem_mem hkl))).2
          obtain ⟨r1, r2, r3⟩ := (mayKd_iff _).1 (HM'.out kids[j] (List.getElem_mem hkd))
          have hL : ([78, xs.length] ++ (xs.take j).flatMap kdOf).length ≤ 458 := by have := HBD.out j; simp only [List.length_append, List.length_cons, List.length_nil]; omega
          have hnx : [78, xs.length] ++ (xs.take (j + 1)).flatMap kdOf = (([78, xs.length] ++ (xs.take j).flatMap kdOf ++ txt ks[j]) ++ highOf kids[j].off.toNat 8) ++ highOf kids[j].ct 8 := by
            have hz := HZ.out j hkl hkd
            rw [List.getElem?_eq_getElem hkx] at hz
            rw [flat_next hkx, Option.some.inj hz]; simp [kdOf]
          have hlt' := hown.lt
          generalize [78, xs.length] ++ (xs.take j).flatMap kdOf = L at *
          generalize hit : ks[j] = it at *
          generalize kids[j] = kd at *
          obtain ⟨off, ct⟩ := kd
          simp only at d0 d1 hoff hct r1 r2 r3 hnx
          obtain ⟨o, rfl⟩ : ∃ o : Nat, off = o := ⟨off.toNat, by omega⟩
          rw [Int.toNat_natCast] at hnx
          have hown1 := hown.alloc (.cells #[.int .i64 (o : Nat), .int .u64 (ct : Nat)] 39)
          have hB1 := hB.alloc hB.size (.cells #[.int .i64 (o : Nat), .int .u64 (ct : Nat)] 39)
          have hblk := heap_alloc_new wr (.cells #[.int .i64 (o : Nat), .int .u64 (ct : Nat)] 39)
          have c0 := (hc.below hB1).one
          simp only [KBytes, Nat.mul_one] at c0
          have hT1 := putText_any (.slice px L.length cx) (.slice qa it.length ca) L it w.heap.size _ hown1 (by omega) hB1.size (ha.below hB1) (fun h0 e => by
            cases px with
            | none => exact absurd (ha.spot 0 (List.length_pos_iff.2 h0)) (by intro ⟨b, o, e2, _⟩; subst e2; simp [Value.ownBlock] at e)
            | some ax =>
              have := (hlt' ax.block rfl).1
              have := ha.old h0 ax.block (by rw [e]; rfl)
              omega) (by omega)
          have hwo : IntKind.u64.wrap (o : Int) = o := by rw [IntKind.wrap_u64]; omega
          have HT1 := Lib.hid hT1; have HB1 := Lib.hid hB1; have HNX := Lib.hid hnx; have HLJ := Lib.hid hlj; have HLT' := Lib.hid hlt'; have HBK := Lib.hid hblk
          have HL : Hid (L.length + (txt it).length ≤ 2000) := by unfold Hid; rw [txt_length]; omega
          have HO : Hid (o < 9223372036854775808) := by unfold Hid; omega
          have HCT : Hid (ct < 9223372036854775808) := by unfold Hid; omega
          clear hT1 hB1 ha hblk hown1 hlt' hnx hL q3 hc hat hc' hat' hown hB hit hkl hkd hkx hoff hct r1 r2 r3
          go_wp2_with fail
          refine HT1.out.mono ?_
          rintro e w2 ⟨v2, rfl, ho2, hg2⟩
          have hb2 : Below w.heap.size w w2 := hg2.below HB1.out HB1.out.size (fun i hi => (HLT'.out i hi).1)
          have hbk2 : w2.heap[wr.heap.size]? = some (.cells #[.int .i64 (o : Nat), .int .u64 (ct : Nat)] 39 (0, 0)) := (hg2.block (by simp) (by intro e; have := (HLT'.out _ e).2; omega)).trans HBK.out
          have e0 := cells_of hbk2 0
          simp only [List.getElem?_toArray, List.getElem?_cons_zero] at e0
          obtain ⟨M, hM⟩ : ∃ M, M = L ++ txt it := ⟨_, rfl⟩
          rw [← hM] at ho2
          have HMM := Lib.hid hM
          have hML : M.length ≤ 2000 := by rw [hM, List.length_append]; exact HL.out
          have HML := Lib.hid hML
          have hwl2 : wr.heap.size < w2.heap.size := (Array.getElem?_eq_some_iff.1 hbk2).1
          have hne2 : v2.ownBlock ≠ some wr.heap.size := by
            rcases hg2.new with h | ⟨g, h, hg⟩
            · rw [h]; intro e; have := (HLT'.out _ e).2; omega
            · rw [h]; intro e; have := Option.some.inj e; simp at hg; omega
          have hT2 := putNumber_any o HO.out v2 M w.heap.size w2 ho2 (by omega) hb2.size
          have HT2 := Lib.hid hT2; have HB2 := Lib.hid hb2; have HLT2 := Lib.hid ho2.lt; have HBK2 := Lib.hid hbk2; have HNE2 := Lib.hid hne2; have HWL2 := Lib.hid hwl2
          clear hT2 hb2 hbk2 ho2 hg2 HT1 HBK c0 d0 d1 hM hML hne2 hwl2
          go_wp2_with fail
          refine HT2.out.mono ?_
          rintro e w3 ⟨v3, rfl, ho3, hg3⟩
          have hb3 : Below w.heap.size w w3 := hg3.below HB2.out HB2.out.size (fun i hi => (HLT2.out i hi).1)
          have hbk3 : w3.heap[wr.heap.size]? = some (.cells #[.int .i64 (o : Nat), .int .u64 (ct : Nat)] 39 (0, 0)) := (hg3.block HWL2.out HNE2.out).trans HBK2.out
          have f1 := cells_of hbk3 1
          simp only [List.getElem?_toArray, List.getElem?_cons_zero, List.getElem?_cons_succ] at f1
          obtain ⟨M2, hM2⟩ : ∃ M2, M2 = M ++ highOf o 8 := ⟨_, rfl⟩
          rw [← hM2] at ho3
          have HMM2 := Lib.hid hM2
          have hT3 := putNumber_any ct HCT.out v3 M2 w.heap.size w3 ho3 (by rw [hM2, List.length_append, highOf_length]; have := HML.out; omega) hb3.size
          have HT3 := Lib.hid hT3; have HB3 := Lib.hid hb3; have HLT3 := Lib.hid ho3.lt
          clear hT3 hb3 hbk3 ho3 hg3 HT2 HBK2 e0 hM2
          go_wp2_with fail
          refine HT3.out.mono ?_
          rintro e w4 ⟨v4, rfl, ho4, hg4⟩
          have hrow4 : InRow w xs v4 (.int .i64 (j + 1 : Nat)) w4 := ⟨j + 1, by have := HZL.out; have := HLJ.out; omega, rfl, by rw [HNX.out, ← HMM.out, ← HMM2.out]; exact ho4, hg4.below HB3.out HB3.out.size (fun i hi => (HLT3.out i hi).1)⟩
          have HROW := Lib.hid hrow4
          clear hrow4 ho4 hg4 HT3 f1
          go_wp2
          go_roundw
          case rel => exact HROW.out
          case measure => simp [intOf]; have := HLJ.out; omega
        · have hjk : j = k := by have := HZL.out; omega
          have hE : [78, xs.length] ++ (xs.take j).flatMap kdOf = 78 :: k :: xs.flatMap kdOf := by
            rw [List.take_of_length_le (by rw [← HZL.out]; omega), ← HZL.out]; rfl
          rw [hE] at hown ⊢
          have HO := Lib.hid hown; have HB := Lib.hid hB
          clear hown hB hE hj
          subst hjk
          go_wp2
          go_ret
          exact ⟨_, rfl, HO.out, HB.out⟩
set_option maxRecDepth 100000 in
theorem put_any {w : World} {v : Value} {n : Nd} {pi pk pd : Option Addr} {ci ck cd : Nat} (h : IsNd w v n pi ci pk ck pd cd) :
    Calls Try.prog 64 #[v] w (Rows w (putNd n)) := by
  have hv := h.val
  have hb := (Below.refl w.heap.size w).alloc (Nat.le_refl _) (.cells #[.bool n.leaf, .slice pi n.its.length ci, .slice pk n.ks.length ck, .slice pd n.kids.length cd] 93)
  have HM := Lib.hid (may_any (h.below hb))
  have hx := NdAt.new w n pi ci pk ck pd cd
  have HX := Lib.hid hx
  have HB := Lib.hid hb
  have HI := Lib.hid (h.below hb)
  subst hv
  obtain ⟨R, hR⟩ : ∃ R, R = putNd n := ⟨_, rfl⟩
  have HRR := Lib.hid hR
  rw [← hR]
  clear hb h hx hR
  go_enter Try.func64, Try.ntmps64
  go_wp2_with fail
  refine HM.out.mono ?_
  rintro e w1 ⟨rfl, hb1⟩
  have HB1 : Hid (Below w.heap.size w w1) := HB.out.trans (hb1.mono HB.out.size)
  have HX1 := Lib.hid (HX.out.below hb1); have HI1 := Lib.hid (HI.out.below hb1)
  clear hb1 HX HI HM
  cases hm : mayNd n with
  | false =>
    have E : Hid (R = []) := by unfold Hid; rw [HRR.out]; unfold putNd; rw [hm]; rfl
    clear hm
    go_wp2
    go_ret
    exact ⟨_, rfl, by rw [E.out]; exact World.ownsRow_nil _ _ _ _, HB1.out⟩
  | true =>
    have E : Hid (R = ndOf n) := by unfold Hid; rw [HRR.out]; unfold putNd; rw [hm]; rfl
    obtain ⟨c0, c1, c2, c3⟩ := HX1.out.cells
    cases hl : n.leaf with
    | true =>
      obtain ⟨m1, m2, _, _, _⟩ := may_lf hl hm
      have E2 : R = 76 :: n.its.length :: n.its.flatMap itOf := by rw [E.out]; exact ndOf_lf hl
      have HP := Lib.hid (putLeaf_any pi ci n.its w1 HI1.out.its m2 m1.2)
      rw [← E2] at HP
      rw [hl] at c0
      clear hm hl m1 m2 E2
      go_wp2_with fail
      refine HP.out.mono ?_
      rintro e w2 ⟨v2, rfl, ho, hb2⟩
      have HO := Lib.hid ho; have HB2 : Hid (Below w.heap.size w w2) := HB1.out.trans (hb2.mono HB1.out.size)
      obtain ⟨p2, c2', rfl⟩ := shape_of ho
      clear ho hb2
      go_wp2
      go_ret
      exact ⟨_, rfl, owns_base HO.out HB1.out.size, HB2.out⟩
    | false =>
      obtain ⟨m1, m2, m3, _, m4, _⟩ := may_in hl hm
      have E2 : R = 78 :: n.kids.length :: (n.ks.zip n.kids).flatMap kdOf := by rw [E.out]; exact ndOf_in hl
      have HP := Lib.hid (putInner_any pk pd ck cd n.ks n.kids w1 HI1.out.ks HI1.out.kids m2 m3 m4 m1.2)
      rw [← E2] at HP
      rw [hl] at c0
      clear hm hl m1 m2 m3 m4 E2
      go_wp2_with fail
      refine HP.out.mono ?_
      rintro e w2 ⟨v2, rfl, ho, hb2⟩
      have HO := Lib.hid ho; have HB2 : Hid (Below w.heap.size w w2) := HB1.out.trans (hb2.mono HB1.out.size)
      obtain ⟨p2, c2', rfl⟩ := shape_of ho
      clear ho hb2
      go_wp2
      go_ret
      exact ⟨_, rfl, owns_base HO.out HB1.out.size, HB2.out⟩
end Go.Proofs.Ytajfcnaifegonaa.Sl.Nd
/- Nodes in a program: rows that are being read. -/
namespace Go.Proofs.Ytajfcnaifegonaa.Sl.Nd
open Go Go.RowKit Go.By
section
variable {w w' : World} {B b : Nat} {v u u' : Value} {c : Array Value} {fr : Nat × Nat}
end
end Go.Proofs.Ytajfcnaifegonaa.Sl.Nd
/- Nodes in a program: the reader's parts. -/
namespace Go.By
open Go Go.RowKit
end Go.By
namespace Go.Proofs.Ytajfcnaifegonaa.Sl.Nd
open Go Go.RowKit Go.By
section
variable {w : World} {b i : Nat} {sv : Value} {lf : Bool} {iv kv dv fv : Value}
end
section
variable (w0 : World) (b : Nat) (w : World) (sv : Value) (l : List Nat) (i : Nat) (lf : Bool) (iv kv dv fv : Value)
end
end Go.Proofs.Ytajfcnaifegonaa.Sl.Nd
/- Nodes in a program: texts and numbers, taken. -/
namespace Go.By
open Go Go.RowKit
end Go.By
namespace Go.Proofs.Ytajfcnaifegonaa.Sl.Nd
open Go Go.RowKit Go.By
section
variable (w0 : World) (b t c : Nat) (cs : Array Value) (T : TypeId) (w : World) (sv : Value) (l : List Nat) (i : Nat) (lf : Bool) (iv kv dv fv : Value)
end
end Go.Proofs.Ytajfcnaifegonaa.Sl.Nd
/- Nodes in a program: items, taken. -/
namespace Go.By
open Go Go.RowKit
theorem step_append_run {P : Program} {w : World} {ops : Array Oper} {o : Oper} {a : Act} {K : Act → World → Prop} {Q : Exit → Act → World → Prop} {E : Prop} (hgd : o.guard = none) (s x : Operand) (t t' : TypeId)
    (ho : o.op = .call { callee := .builtin .append, args := #[s, x], argTypes := #[t, t'] }) (v xv : Value) (hs : a.eval s = v) (hx : a.eval x = xv) (v' : Value) (w' : World) (hrun : (Builtin.append_ #[t, t'] o.type #[v, xv]).run P w = .ok v' w')
    (h : K (a.put o.dst v') w') :
    if Region.wanted o (yielded ops a.tmps) = true then Oper.wp P o a w K Q else E := by
  have hw : Region.wanted o (yielded ops a.tmps) = true := by simp [Region.wanted, hgd]
  rw [if_pos hw]
  unfold Oper.wp execOp
  simp only [ho, resolve, invoke, builtin, Sem.run_bind, Sem.run_pure, Result.andThen_ok, List.map_toArray, List.map_cons, List.map_nil, hs, hx, hrun]
  exact h
end Go.By
namespace Go.Proofs.Ytajfcnaifegonaa.Sl.Nd
open Go Go.RowKit Go.By
end Go.Proofs.Ytajfcnaifegonaa.Sl.Nd
/- Nodes in a program: trees, taken. -/
namespace Go.Proofs.Ytajfcnaifegonaa.Sl.Nd
open Go Go.RowKit Go.By
end Go.Proofs.Ytajfcnaifegonaa.Sl.Nd
