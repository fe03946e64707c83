/- Nodes in a program: numbers and texts, laid. -/
import Derived.Test.YtlagllhhahomlaaGreatMLfQ
import Derived.Test.YtlagllhhahomlaaGreatMGrw
import Derived.Test.YtlagllhhahomlaaGreatMNdO
import Derived.Deep.RegionWith
import Derived.Test.YtlagllhhahomlaaGreatMBodyR
namespace Go.Proofs.YtlagllhhahomlaaGreat.Sl.Nd
open Go Go.RowKit Go.By
theorem highOf_at (n : Nat) : ∀ (v k : Nat), k < n → (highOf v n)[k]? = some (v / 256 ^ (n - 1 - k) % 256) := by
  induction n with
  | zero => intro v k h; omega
  | succ n ih =>
    intro v k h
    rw [highOf]
    by_cases hk : k < n
    · rw [List.getElem?_append_left (by rw [highOf_length]; exact hk), ih _ _ hk, Nat.div_div_eq_div_mul, show n + 1 - 1 - k = (n - 1 - k) + 1 by omega, Nat.pow_succ, Nat.mul_comm]
    · obtain rfl : k = n := by omega
      rw [List.getElem?_append_right (by rw [highOf_length]; omega), highOf_length]
      simp
theorem highOf_take {v n k : Nat} (h : k < n) : (highOf v n).take (k + 1) = (highOf v n).take k ++ [v / 256 ^ (n - 1 - k) % 256] := by
  have hl : k < (highOf v n).length := by rw [highOf_length]; exact h
  rw [List.take_succ_eq_append_getElem hl]
  have := highOf_at n v k h
  rw [List.getElem?_eq_getElem hl] at this
  rw [Option.some.inj this]
def RowsG (w : World) (base : Nat) (v : Value) (m : List Nat) (e : Ending) (w' : World) : Prop :=
  ∃ v', e = .returned v' ∧ w'.ownsRow base 5 1 v' m.length (cellsOf m) ∧ Grows w w' v v'
def NumAt (w0 : World) (base n : Nat) (l : List Nat) (v : Value) (x i : Value) (w : World) : Prop :=
  ∃ k : Nat, k ≤ 8 ∧ i = .int .i64 k ∧ w.ownsRow base 5 1 x (l ++ (highOf n 8).take k).length (cellsOf (l ++ (highOf n 8).take k)) ∧ Grows w0 w v x
set_option maxRecDepth 100000 in
theorem putNumber_any (n : Nat) (hn : n < 9223372036854775808) (v : Value) (l : List Nat) (base : Nat) (w : World) (hv : w.ownsRow base 5 1 v l.length (cellsOf l)) (hl : l.length ≤ 100000) (hb : base ≤ w.heap.size) :
    Calls Tryz.prog 183 #[v, .int .u64 n] w (RowsG w base v (l ++ highOf n 8)) := by
  have hn1 : (n : Int) ≤ 9223372036854775807 := by omega
  have HN := Lib.hid hn; clear hn
  have h0 : NumAt w base n l v v (.int .i64 (0 : Nat)) w := ⟨0, by omega, rfl, by simpa using hv, Grows.refl _ _⟩
  have H0 := Lib.hid h0
  clear h0 hv
  go_enter Tryz.func183, Tryz.ntmps183
  go_wp2
  go_loopw [0, 6] (fun x i wr => NumAt w base n l v x i wr) (fun _ i _ => 8 - (intOf i).toNat)
  case atStart => exact H0.out
  case round =>
    clear H0
    obtain ⟨k, hk, rfl, hown, hbel⟩ := hrel
    have hsz := hbel.by_.size
    obtain ⟨p, cap, rfl⟩ := shape_of hown
    by_cases hlt : k < 8
    · obtain ⟨j, hj⟩ : ∃ j, j = 7 - k := ⟨_, rfl⟩
      have hj1 : (7 : Int) - (k : Int) = j := by omega
      have hsh : (n : Int) / 2 ^ (8 * (j : Int)).toNat = ((n / 256 ^ j : Nat) : Int) := by
        have : (8 * (j : Int)).toNat = 8 * j := by omega
        rw [this, show 256 ^ j = 2 ^ (8 * j) by rw [Nat.pow_mul], Int.natCast_ediv, Int.natCast_pow]
        rfl
      have htk := highOf_take (v := n) hlt
      rw [show 8 - 1 - k = j by omega] at htk
      have hxn : n / 256 ^ j ≤ n := Nat.div_le_self _ _
      have hw8 : IntKind.u8.wrap ((n / 256 ^ j : Nat) : Int) = ((n / 256 ^ j % 256 : Nat) : Int) := by rw [IntKind.wrap_u8]; omega
      generalize hx : n / 256 ^ j = x at *
      have hx1 : (x : Int) ≤ 9223372036854775807 := by omega
      have hlen : (l ++ (highOf n 8).take k).length ≤ 100008 := by rw [List.length_append, List.length_take]; omega
      have HT : Hid (l ++ (highOf n 8).take (k + 1) = (l ++ (highOf n 8).take k) ++ [x % 256]) := by unfold Hid; rw [htk, List.append_assoc]
      generalize hm : l ++ (highOf n 8).take k = m at *
      have HO := Lib.hid hown; have HB := Lib.hid hbel
      have hlm : (m.length : Int) ≤ 100008 := by omega
      have hbs : base ≤ wr.heap.size := by omega
      have hjl : (j : Int) ≤ 7 := by omega
      obtain ⟨v2, w2, hrun, hown2, hg2⟩ := run_append_byt (P := Tryz.prog) 26 byT base (.slice p m.length cap) m.length (cellsOf m) (HO.out.alloc (.cells #[.int .u8 (x % 256 : Nat)] 5)) (.slice (some ⟨wr.heap.size, 0, none⟩) 1 1) [x % 256] (Bytes.one (by omega) (by omega)) (by simp; omega) (by simp; omega)
      have ho2 : w2.ownsRow base 5 1 v2 (m ++ [x % 256]).length (cellsOf (m ++ [x % 256])) := by
        rw [List.length_append, cellsOf_append]; exact hown2
      rw [← HT.out] at ho2
      have hrel2 : NumAt w base n l v v2 (.int .i64 (k + 1 : Nat)) w2 := ⟨k + 1, by omega, rfl, ho2, HB.out.trans ((Grows.alloc _ _ _).trans hg2)⟩
      have HR := Lib.hid hrel2; have HRUN := Lib.hid hrun
      clear hown hbel htk hxn hx hm hj hlen hown2 hg2 ho2 hrel2 hrun
      go_wp2_with (at_builtin; refine Lib.wpList_append_run _ rfl (.tmp 9) (.tmp 16) 26 26 rfl _ _ rfl rfl v2 w2 HRUN.out ?_)
      go_roundw
      case rel => exact HR.out
      case measure => simp [intOf]; omega
    · obtain rfl : k = 8 := by omega
      rw [List.take_of_length_le (by rw [highOf_length]; omega)] at hown
      have HO := Lib.hid hown; have HB := Lib.hid hbel
      clear hown hbel
      go_wp2
      go_ret
      exact ⟨_, rfl, by simpa [List.length_take, highOf_length] using HO.out, HB.out⟩
set_option maxRecDepth 100000 in
theorem putText_any (v xv : Value) (l m : List Nat) (base : Nat) (w : World) (hv : w.ownsRow base 5 1 v l.length (cellsOf l)) (hl : l.length ≤ 1000000) (hb : base ≤ w.heap.size) (hx : Bytes w xv m) (hne : m ≠ [] → xv.ownBlock ≠ v.ownBlock) (hm : m.length ≤ 255) :
    Calls Tryz.prog 182 #[v, xv] w (RowsG w base v (l ++ txt m)) := by
  obtain ⟨p, cap, rfl⟩ := shape_of hv
  have HV := Lib.hid hv; clear hv
  have hm' : (m.length : Int) ≤ 255 := by omega
  have hw8 : IntKind.u8.wrap (m.length : Int) = m.length := by rw [IntKind.wrap_u8]; omega
  obtain ⟨v1, w1, hrun, hown1, hg1⟩ := run_append_byt (P := Tryz.prog) 26 byT base (.slice p l.length cap) l.length (cellsOf l) (HV.out.alloc (.cells #[.int .u8 (m.length : Nat)] 5)) (.slice (some ⟨w.heap.size, 0, none⟩) 1 1) [m.length] (Bytes.one rfl (by omega)) (by simp; omega) (by simp; omega)
  have hga := (Grows.alloc w (.slice p l.length cap) (.cells #[.int .u8 (m.length : Nat)] 5)).trans hg1
  have ho1 : w1.ownsRow base 5 1 v1 (l ++ [m.length]).length (cellsOf (l ++ [m.length])) := by
    rw [List.length_append, cellsOf_append]; exact hown1
  have hz := hga.by_.size
  have hx1 : Bytes w1 xv m := by
    refine ⟨?_, hx.small, hx.short⟩
    rcases hx.out with h | h | ⟨b, o, c, rfl, hc, hcell⟩
    · exact .inl h
    · exact .inr (.inl h)
    · refine .inr (.inr ⟨b, o, c, rfl, hc, fun i hi => ?_⟩)
      have h0 := hcell i hi
      have hb' : b < w.heap.size := block_lt_of_cell h0
      exact (World.cell?_of_block (a := ⟨b, o + i, none⟩) (hga.block hb' (by
        intro e
        exact hne (by intro e0; subst e0; exact absurd hi (Nat.not_lt_zero _)) (by rw [e]; rfl)))).trans h0
  obtain ⟨q, cq, rfl, _⟩ := hx.any
  obtain ⟨v2, w2, hrun2, ho2, hg2⟩ := run_append_byt (P := Tryz.prog) 26 byT base v1 (l ++ [m.length]).length (cellsOf (l ++ [m.length])) ho1 (.slice q m.length cq) m hx1 (by rw [List.length_append]; simp; omega) (by omega)
  have ho3 : w2.ownsRow base 5 1 v2 (l ++ txt m).length (cellsOf (l ++ txt m)) := by
    have e : l ++ txt m = (l ++ [m.length]) ++ m := by unfold txt; simp
    rw [e, List.length_append, cellsOf_append]
    exact ho2
  have HR1 := Lib.hid hrun; have HR2 := Lib.hid hrun2; have HO := Lib.hid ho3; have HB := Lib.hid (hga.trans hg2)
  clear hrun hrun2 ho3 ho2 hg2 ho1 hown1 hg1 hga hz HV hx hx1 hne
  go_enter Tryz.func182, Tryz.ntmps182
  go_wp2_with first
    | (at_builtin; refine Lib.wpList_append_run _ rfl (.tmp 5) (.tmp 9) 26 26 rfl _ _ rfl rfl v1 w1 HR1.out ?_)
    | (at_builtin; refine Lib.wpList_append_run _ rfl (.tmp 10) (.tmp 11) 26 26 rfl _ _ rfl rfl v2 w2 HR2.out ?_)
  go_ret
  exact ⟨_, rfl, HO.out, HB.out⟩
end Go.Proofs.YtlagllhhahomlaaGreat.Sl.Nd
/- Nodes in a program: what is put. -/
namespace Go.By
open Go Go.RowKit
theorem Bytes.old {w : World} {v : Value} {l : List Nat} (h : Bytes w v l) (h0 : l ≠ []) : ∀ k, v.ownBlock = some k → k < w.heap.size := by
  intro k hk
  obtain ⟨p, c, rfl, _⟩ := h.any
  have hp : 0 < l.length := List.length_pos_iff.2 h0
  obtain ⟨b, o, rfl, hc⟩ := h.spot 0 hp
  simp only [Value.ownBlock, Option.some.injEq] at hk
  subst hk
  exact block_lt_of_cell hc
theorem flat_next {α : Type} {f : α → List Nat} {xs : List α} {k : Nat} (h : k < xs.length) : (xs.take (k + 1)).flatMap f = (xs.take k).flatMap f ++ f xs[k] := by
  rw [List.take_succ_eq_append_getElem h, List.flatMap_append]
  simp
end Go.By
namespace Go.Proofs.YtlagllhhahomlaaGreat.Sl.Nd
open Go Go.RowKit Go.By
theorem flat_take {α : Type} {f : α → List Nat} {b k : Nat} {xs : List α} (h : ∀ x ∈ xs, (f x).length ≤ b) : ((xs.take k).flatMap f).length ≤ b * xs.length := by
  refine Nat.le_trans (flat_length (fun x hx => h x (List.mem_of_mem_take hx))) (Nat.mul_le_mul_left _ ?_)
  rw [List.length_take]
  omega
def Rows (w : World) (m : List Nat) (e : Ending) (w' : World) : Prop :=
  ∃ v', e = .returned v' ∧ w'.ownsRow w.heap.size 5 1 v' m.length (cellsOf m) ∧ Below w.heap.size w w'
def LfSz (w : World) (its : List NIt) (s i : Value) (wr : World) : Prop :=
  ∃ k : Nat, k ≤ its.length ∧ i = .int .i64 k ∧ s = .int .i64 (2 + ((its.take k).flatMap itOf).length : Nat) ∧ Below w.heap.size w wr
def LfRow (w : World) (its : List NIt) (x i : Value) (wr : World) : Prop :=
  ∃ k : Nat, k ≤ its.length ∧ i = .int .i64 k ∧ wr.ownsRow w.heap.size 5 1 x ([76, its.length] ++ (its.take k).flatMap itOf).length (cellsOf ([76, its.length] ++ (its.take k).flatMap itOf)) ∧ Below w.heap.size w wr
set_option maxRecDepth 100000 in
set_option maxHeartbeats 1000000 in
theorem putLeaf_any (p : Option Addr) (cap : Nat) (its : List NIt) (w : World) (h : RowAt KItem w p cap its) (hm : ∀ i ∈ its, mayIt i = true) (h8 : its.length ≤ 8) :
    Calls Tryz.prog 158 #[.slice p its.length cap] w (Rows w (76 :: its.length :: its.flatMap itOf)) := by
  have h0 : LfSz w its (.int .i64 2) (.int .i64 (0 : Nat)) w := ⟨0, by omega, rfl, rfl, Below.refl _ _⟩
  have hbd : ∀ x ∈ its, (itOf x).length ≤ 162 := fun x hx => by
    obtain ⟨q1, q2⟩ := (mayIt_iff _).1 (hm x hx)
    have := ((mayK_iff _).1 q1).2
    simp [itOf, txt]; omega
  have H0 := Lib.hid h0; have HR := Lib.hid h; have HM := Lib.hid hm
  have HBD : Hid (∀ k, ((its.take k).flatMap itOf).length ≤ 1296) := fun k => Nat.le_trans (flat_take hbd) (by omega)
  obtain ⟨N, hN⟩ : ∃ N, N = its.length := ⟨_, rfl⟩
  have hN8 : (N : Int) ≤ 8 := by omega
  have HN := Lib.hid hN
  rw [← hN]
  clear h0 h hN hm hbd h8
  go_enter Tryz.func158, Tryz.ntmps158
  go_wp2
  go_loopw [3, 11] (fun s i W => LfSz w its s i W) (fun _ i _ => N - (intOf i).toNat)
  case atStart => exact H0.out
  case round =>
    clear H0
    obtain ⟨k, hk, rfl, rfl, hB⟩ := hrel
    by_cases hlt : k < N
    · have hkl : k < its.length := by rw [← HN.out]; exact hlt
      obtain ⟨lb, lo, rfl, hat⟩ := HR.out.some (by omega)
      obtain ⟨cs, hc, a, b, rfl, ha, hb⟩ := hat k hkl
      obtain ⟨c0, c1⟩ := (hc.below hB).two
      simp only [KItem] at c0 c1
      obtain ⟨qa, ca, rfl, -⟩ := ha.any
      obtain ⟨qb, cb, rfl, -⟩ := hb.any
      obtain ⟨q1, q2⟩ := (mayIt_iff _).1 (HM.out its[k] (List.getElem_mem hkl))
      have q3 := ((mayK_iff _).1 q1).2
      have hS : 2 + ((its.take (k + 1)).flatMap itOf).length = 2 + ((its.take k).flatMap itOf).length + (2 + its[k].k.length + its[k].v.length) := by
        rw [flat_next hkl, List.length_append]
        simp [itOf, txt]; omega
      have hS2 : 2 + ((its.take k).flatMap itOf).length ≤ 1298 := by have := HBD.out k; omega
      generalize 2 + ((its.take k).flatMap itOf).length = S at *
      generalize its[k].k.length = l1 at *
      generalize its[k].v.length = l2 at *
      have hSi : (S : Int) ≤ 1298 := by omega
      have hl1 : (l1 : Int) ≤ 40 := by omega
      have hl2 : (l2 : Int) ≤ 120 := by omega
      have HNX : Hid (LfSz w its (.int .i64 (S + (2 + l1 + l2) : Nat)) (.int .i64 (k + 1 : Nat)) (wr.alloc (.cells #[.slice qa l1 ca, .slice qb l2 cb] 49))) := ⟨k + 1, by omega, rfl, by rw [hS], hB.alloc hB.size _⟩
      have HLT := Lib.hid hlt
      clear hS hS2 q1 q2 q3 ha hb hc hat hB
      go_wp2
      go_roundw
      case rel => exact HNX.out
      case measure => simp [intOf]; have := HLT.out; omega
    · have hkl : ¬ k < its.length := by rw [← HN.out]; exact hlt
      obtain rfl : k = N := by have := HN.out; omega
      have hS2 : 2 + ((its.take k).flatMap itOf).length ≤ 1298 := by have := HBD.out k; omega
      generalize 2 + ((its.take k).flatMap itOf).length = S at *
      obtain ⟨wm, hwm⟩ : ∃ W, W = wr.alloc (.cells (zeros S) 5) := ⟨_, rfl⟩
      have hmk := made_run 0 S 0 (S : Int) rfl rfl (by omega) (by omega) wr
      rw [← hwm] at hmk
      have hbm : Below w.heap.size w wm := by rw [hwm]; exact hB.alloc hB.size _
      have hom : wm.ownsRow w.heap.size 5 1 (.slice (some ⟨wr.heap.size, 0, none⟩) 0 S) 0 [] := by rw [hwm]; exact World.ownsRow_made wr (zeros S) S hB.size (by unfold maxLen; omega) (by rw [zeros_size, Nat.mul_one])
      have hw8 : IntKind.u8.wrap (k : Int) = k := by rw [IntKind.wrap_u8]; omega
      obtain ⟨v1, w1, hrun, ho1, hg1⟩ := run_append_byt (P := Tryz.prog) 26 byT w.heap.size (.slice (some ⟨wr.heap.size, 0, none⟩) 0 S) 0 [] (hom.alloc (.cells #[.int .u8 76, .int .u8 (k : Nat)] 5)) (.slice (some ⟨wm.heap.size, 0, none⟩) 2 2) [76, k] (Bytes.lit [76, k] rfl rfl (by simp; omega) (by simp [maxLen])) (by simp) (by have := hbm.size; simp; omega)
      have hb1 : Below w.heap.size w w1 := ((Grows.alloc wm (.slice (some ⟨wr.heap.size, 0, none⟩) 0 S) (.cells #[.int .u8 76, .int .u8 (k : Nat)] 5)).trans hg1).below hbm hbm.size (fun j hj => (hom.lt j hj).1)
      have hrow : LfRow w its v1 (.int .i64 (0 : Nat)) w1 := ⟨0, by omega, rfl, by rw [← HN.out]; simpa using ho1, hb1⟩
      have HROW := Lib.hid hrow; have HRUN := Lib.hid hrun
      have hSi : (S : Int) ≤ 1298 := by omega
      clear hrow hrun ho1 hg1 hb1 hom hbm hwm hS2 hB hlt hkl hk
      go_wp2_with (at_builtin; refine Lib.wpList_append_run _ rfl (.tmp 27) (.tmp 31) 26 26 rfl _ _ rfl rfl v1 w1 HRUN.out ?_)
      clear HRUN hmk
      go_loopw [6, 35] (fun x i W => LfRow w its x i W) (fun _ i _ => k - (intOf i).toNat)
      case atStart => exact HROW.out
      case round =>
        clear HROW
        obtain ⟨j, hj, rfl, hown, hB⟩ := hrel
        obtain ⟨px, cx, rfl⟩ := shape_of hown
        by_cases hlj : j < k
        · have hkl : j < its.length := by rw [← HN.out]; exact hlj
          obtain ⟨lb, lo, rfl, hat⟩ := HR.out.some (by omega)
          obtain ⟨cs, hc, a, b, rfl, ha, hb⟩ := hat j hkl
          obtain ⟨c0, c1⟩ := (hc.below hB).two
          simp only [KItem] at c0 c1
          obtain ⟨qa, ca, rfl, -⟩ := ha.any
          obtain ⟨qb, cb, rfl, -⟩ := hb.any
          obtain ⟨q1, q2⟩ := (mayIt_iff _).1 (HM.out its[j] (List.getElem_mem hkl))
          have q3 := ((mayK_iff _).1 q1).2
          have hL : ([76, its.length] ++ (its.take j).flatMap itOf).length ≤ 1298 := by have := HBD.out j; simp only [List.length_append, List.length_cons, List.length_nil]; omega
          have hnx : [76, its.length] ++ (its.take (j + 1)).flatMap itOf = ([76, its.length] ++ (its.take j).flatMap itOf ++ txt its[j].k) ++ txt its[j].v := by rw [flat_next hkl]; simp [itOf]
          have hlt' := hown.lt
          generalize [76, its.length] ++ (its.take j).flatMap itOf = L at *
          generalize hit : its[j] = it at *
          have hown1 := hown.alloc (.cells #[.slice qa it.k.length ca, .slice qb it.v.length cb] 49)
          have hB1 := hB.alloc hB.size (.cells #[.slice qa it.k.length ca, .slice qb it.v.length cb] 49)
          have hblk := heap_alloc_new wr (.cells #[.slice qa it.k.length ca, .slice qb it.v.length cb] 49)
          have hT1 := putText_any (.slice px L.length cx) (.slice qa it.k.length ca) L it.k w.heap.size _ hown1 (by omega) hB1.size (ha.below hB1) (fun h0 e => by
            cases px with
            | none => exact absurd (ha.spot 0 (List.length_pos_iff.2 h0)) (by intro ⟨b, o, e2, _⟩; subst e2; simp [Value.ownBlock] at e)
            | some ax =>
              have := (hlt' ax.block rfl).1
              have := ha.old h0 ax.block (by rw [e]; rfl)
              omega) (by omega)
          have HT1 := Lib.hid hT1; have HB1 := Lib.hid hB1; have HBV := Lib.hid hb; have HNX := Lib.hid hnx; have HLJ := Lib.hid hlj; have HLT' := Lib.hid hlt'; have HBK := Lib.hid hblk
          have HQ2 := Lib.hid q2
          have HL : Hid (L.length + (txt it.k).length ≤ 2000) := by unfold Hid; rw [txt_length]; omega
          clear hT1 hB1 hb ha hblk hown1 hlt' hnx hL q1 q2 q3 hc hat hown hB hit hkl
          go_wp2_with fail
          refine HT1.out.mono ?_
          rintro e w2 ⟨v2, rfl, ho2, hg2⟩
          have hb2 : Below w.heap.size w w2 := hg2.below HB1.out HB1.out.size (fun i hi => (HLT'.out i hi).1)
          have hbk2 : w2.heap[wr.heap.size]? = some (.cells #[.slice qa it.k.length ca, .slice qb it.v.length cb] 49 (0, 0)) := (hg2.block (by simp) (by intro e; have := (HLT'.out _ e).2; omega)).trans HBK.out
          have e0 := cells_of hbk2 0
          have e1 := cells_of hbk2 1
          simp only [List.getElem?_toArray, List.getElem?_cons_zero, List.getElem?_cons_succ] at e0 e1
          obtain ⟨M, hM⟩ : ∃ M, M = L ++ txt it.k := ⟨_, rfl⟩
          rw [← hM] at ho2
          have HMM := Lib.hid hM
          have hML : M.length ≤ 2000 := by rw [hM, List.length_append]; exact HL.out
          have hlt2 := ho2.lt
          obtain ⟨p2, c2, rfl⟩ := shape_of ho2
          have hT2 := putText_any (.slice p2 M.length c2) (.slice qb it.v.length cb) M it.v w.heap.size w2 ho2 (by omega) hb2.size (HBV.out.below hb2) (fun h0 e => by
            cases p2 with
            | none => exact absurd (HBV.out.spot 0 (List.length_pos_iff.2 h0)) (by intro ⟨b, o, e2, _⟩; subst e2; simp [Value.ownBlock] at e)
            | some ax =>
              have := (hlt2 ax.block rfl).1
              have := HBV.out.old h0 ax.block (by rw [e]; rfl)
              omega) (by have := HQ2.out; omega)
          have HT2 := Lib.hid hT2; have HB2 := Lib.hid hb2; have HLT2 := Lib.hid hlt2
          clear hT2 hb2 hbk2 hlt2 ho2 hg2 HT1 HBK c0 c1 hM hML
          go_wp2_with fail
          refine HT2.out.mono ?_
          rintro e w3 ⟨v3, rfl, ho3, hg3⟩
          have hrow3 : LfRow w its v3 (.int .i64 (j + 1 : Nat)) w3 := ⟨j + 1, by have := HN.out; have := HLJ.out; omega, rfl, by rw [HNX.out, ← HMM.out]; exact ho3, hg3.below HB2.out HB2.out.size (fun i hi => (HLT2.out i hi).1)⟩
          have HROW := Lib.hid hrow3
          clear hrow3 ho3 hg3 HT2 e0 e1
          go_wp2
          go_roundw
          case rel => exact HROW.out
          case measure => simp [intOf]; have := HLJ.out; omega
        · have hjk : j = k := by have := HN.out; omega
          have hE : [76, its.length] ++ (its.take j).flatMap itOf = 76 :: k :: its.flatMap itOf := by
            rw [List.take_of_length_le (by rw [← HN.out]; omega), ← HN.out]; rfl
          rw [hE] at hown ⊢
          have HO := Lib.hid hown; have HB := Lib.hid hB
          clear hown hB hE hj
          subst hjk
          go_wp2
          go_ret
          exact ⟨_, rfl, HO.out, HB.out⟩
end Go.Proofs.YtlagllhhahomlaaGreat.Sl.Nd
/- Nodes in a program: inner ones, laid; Put. -/
namespace Go.Proofs.YtlagllhhahomlaaGreat.Sl.Nd
open Go Go.RowKit Go.By
def InSz (w : World) (xs : List (List Nat × NKd)) (s i : Value) (wr : World) : Prop :=
  ∃ k : Nat, k ≤ xs.length ∧ i = .int .i64 k ∧ s = .int .i64 (2 + ((xs.take k).flatMap kdOf).length : Nat) ∧ Below w.heap.size w wr
def InRow (w : World) (xs : List (List Nat × NKd)) (x i : Value) (wr : World) : Prop :=
  ∃ k : Nat, k ≤ xs.length ∧ i = .int .i64 k ∧ wr.ownsRow w.heap.size 5 1 x ([78, xs.length] ++ (xs.take k).flatMap kdOf).length (cellsOf ([78, xs.length] ++ (xs.take k).flatMap kdOf)) ∧ Below w.heap.size w wr
theorem zip_at {α β : Type} {a : List α} {b : List β} {k : Nat} (ha : k < a.length) (hb : k < b.length) (h : k < (a.zip b).length) : (a.zip b)[k] = (a[k], b[k]) := by
  simp
set_option maxRecDepth 100000 in
set_option maxHeartbeats 1000000 in
theorem putInner_any (p q : Option Addr) (cap caq : Nat) (ks : List (List Nat)) (kids : List NKd) (w : World) (h : RowAt KBytes w p cap ks) (h' : RowAt KRef w q caq kids) (hl : ks.length = kids.length) (hm : ∀ k ∈ ks, mayK k = true) (hm' : ∀ d ∈ kids, mayKd d = true) (h8 : kids.length ≤ 8) :
    Calls Tryz.prog 159 #[.slice p ks.length cap, .slice q kids.length caq] w (Rows w (78 :: kids.length :: (ks.zip kids).flatMap kdOf)) := by
  have h0 : InSz w (ks.zip kids) (.int .i64 2) (.int .i64 (0 : Nat)) w := ⟨0, by omega, rfl, rfl, Below.refl _ _⟩
  have hbd : ∀ x ∈ ks.zip kids, (kdOf x).length ≤ 57 := fun x hx => by
    have hk : x.1 ∈ ks := (List.of_mem_zip (a := x.1) (b := x.2) hx).1
    have := ((mayK_iff _).1 (hm _ hk)).2
    simp [kdOf, txt, highOf_length]; omega
  have hzl : (ks.zip kids).length = kids.length := by rw [List.length_zip]; omega
  have HZ : Hid (∀ k (hk : k < ks.length) (hk' : k < kids.length), (ks.zip kids)[k]? = some (ks[k], kids[k])) := fun k hk hk' => by
    have hz : k < (ks.zip kids).length := by rw [hzl]; exact hk'
    rw [List.getElem?_eq_getElem hz, zip_at hk hk']
  have H0 := Lib.hid h0; have HR := Lib.hid h; have HR' := Lib.hid h'; have HM := Lib.hid hm; have HM' := Lib.hid hm'
  have HBD : Hid (∀ k, (((ks.zip kids).take k).flatMap kdOf).length ≤ 456) := fun k => Nat.le_trans (flat_take hbd) (by rw [hzl]; omega)
  obtain ⟨N, hN⟩ : ∃ N, N = kids.length := ⟨_, rfl⟩
  have hN8 : (N : Int) ≤ 8 := by omega
  have HN := Lib.hid hN
  have HK : Hid (N = ks.length) := by unfold Hid; omega
  have HZL : Hid (N = (ks.zip kids).length) := by unfold Hid; omega
  rw [hl, ← hN]
  generalize hxs : ks.zip kids = xs at *
  clear h0 h h' hN hm hm' hbd h8 hl hzl hxs
  go_enter Tryz.func159, Tryz.ntmps159
  go_wp2
  go_loopw [5, 13] (fun s i W => InSz w xs s i W) (fun _ i _ => N - (intOf i).toNat)
  case atStart => exact H0.out
  case round =>
    clear H0
    obtain ⟨k, hk, rfl, rfl, hB⟩ := hrel
    by_cases hlt : k < N
    · have hkl : k < ks.length := by rw [← HK.out]; exact hlt
      have hkd : k < kids.length := by rw [← HN.out]; exact hlt
      have hkx : k < xs.length := by rw [← HZL.out]; exact hlt
      obtain ⟨lb, lo, rfl, hat⟩ := HR.out.some (by omega)
      obtain ⟨cs, hc, a, rfl, ha⟩ := hat k hkl
      have c0 := (hc.below hB).one
      simp only [KBytes, Nat.mul_one] at c0
      obtain ⟨qa, ca, rfl, -⟩ := ha.any
      have q3 := ((mayK_iff _).1 (HM.out ks[k] (List.getElem_mem hkl))).2
      have hS : 2 + ((xs.take (k + 1)).flatMap kdOf).length = 2 + ((xs.take k).flatMap kdOf).length + (1 + ks[k].length + 16) := by
        have hz := HZ.out k hkl hkd
        rw [List.getElem?_eq_getElem hkx] at hz
        rw [flat_next hkx, List.length_append, Option.some.inj hz]
        simp [kdOf, txt, highOf_length]; omega
      have hS2 : 2 + ((xs.take k).flatMap kdOf).length ≤ 458 := by have := HBD.out k; omega
      generalize 2 + ((xs.take k).flatMap kdOf).length = S at *
      generalize ks[k].length = l1 at *
      have hSi : (S : Int) ≤ 458 := by omega
      have hl1 : (l1 : Int) ≤ 40 := by omega
      have HNX : Hid (InSz w xs (.int .i64 (S + (1 + l1 + 16) : Nat)) (.int .i64 (k + 1 : Nat)) wr) := ⟨k + 1, by omega, rfl, by rw [hS], hB⟩
      have HLT := Lib.hid hlt
      clear hS hS2 q3 ha hc hat hB
      go_wp2
      go_roundw
      case rel => exact HNX.out
      case measure => simp [intOf]; have := HLT.out; omega
    · have hkl : ¬ k < xs.length := by rw [← HZL.out]; exact hlt
      obtain rfl : k = N := by have := HZL.out; omega
      have hS2 : 2 + ((xs.take k).flatMap kdOf).length ≤ 458 := by have := HBD.out k; omega
      generalize 2 + ((xs.take k).flatMap kdOf).length = S at *
      obtain ⟨wm, hwm⟩ : ∃ W, W = wr.alloc (.cells (zeros S) 5) := ⟨_, rfl⟩
      have hmk := made_run 0 S 0 (S : Int) rfl rfl (by omega) (by omega) wr
      rw [← hwm] at hmk
      have hbm : Below w.heap.size w wm := by rw [hwm]; exact hB.alloc hB.size _
      have hom : wm.ownsRow w.heap.size 5 1 (.slice (some ⟨wr.heap.size, 0, none⟩) 0 S) 0 [] := by rw [hwm]; exact World.ownsRow_made wr (zeros S) S hB.size (by unfold maxLen; omega) (by rw [zeros_size, Nat.mul_one])
      have hw8 : IntKind.u8.wrap (k : Int) = k := by rw [IntKind.wrap_u8]; omega
      obtain ⟨v1, w1, hrun, ho1, hg1⟩ := run_append_byt (P := Tryz.prog) 26 byT w.heap.size (.slice (some ⟨wr.heap.size, 0, none⟩) 0 S) 0 [] (hom.alloc (.cells #[.int .u8 78, .int .u8 (k : Nat)] 5)) (.slice (some ⟨wm.heap.size, 0, none⟩) 2 2) [78, k] (Bytes.lit [78, k] rfl rfl (by simp; omega) (by simp [maxLen])) (by simp) (by have := hbm.size; simp; omega)
      have hb1 : Below w.heap.size w w1 := ((Grows.alloc wm (.slice (some ⟨wr.heap.size, 0, none⟩) 0 S) (.cells #[.int .u8 78, .int .u8 (k : Nat)] 5)).trans hg1).below hbm hbm.size (fun j hj => (hom.lt j hj).1)
      have hrow : InRow w xs v1 (.int .i64 (0 : Nat)) w1 := ⟨0, by omega, rfl, by rw [← HZL.out]; simpa using ho1, hb1⟩
      have HROW := Lib.hid hrow; have HRUN := Lib.hid hrun
      have hSi : (S : Int) ≤ 458 := by omega
      clear hrow hrun ho1 hg1 hb1 hom hbm hwm hS2 hB hlt hkl hk
      go_wp2_with (at_builtin; refine Lib.wpList_append_run _ rfl (.tmp 25) (.tmp 29) 26 26 rfl _ _ rfl rfl v1 w1 HRUN.out ?_)
      clear HRUN hmk
      go_loopw [8, 33] (fun x i W => InRow w xs x i W) (fun _ i _ => k - (intOf i).toNat)
      case atStart => exact HROW.out
      case round =>
        clear HROW
        obtain ⟨j, hj, rfl, hown, hB⟩ := hrel
        obtain ⟨px, cx, rfl⟩ := shape_of hown
        by_cases hlj : j < k
        · have hkl : j < ks.length := by rw [← HK.out]; exact hlj
          have hkd : j < kids.length := by rw [← HN.out]; exact hlj
          have hkx : j < xs.length := by rw [← HZL.out]; exact hlj
          obtain ⟨lb, lo, rfl, hat⟩ := HR.out.some (by omega)
          obtain ⟨cs, hc, a, rfl, ha⟩ := hat j hkl
          obtain ⟨lb', lo', rfl, hat'⟩ := HR'.out.some (by omega)
          obtain ⟨cs', hc', rfl, hoff, hct⟩ := hat' j hkd
          obtain ⟨d0, d1⟩ := (hc'.below hB).two
          simp only [KRef] at d0 d1
          obtain ⟨qa, ca, rfl, -⟩ := ha.any
          have q3 := ((mayK_iff _).1 (HM.out ks[j] (List.getElem_mem hkl))).2
          obtain ⟨r1, r2, r3⟩ := (mayKd_iff _).1 (HM'.out kids[j] (List.getElem_mem hkd))
          have hL : ([78, xs.length] ++ (xs.take j).flatMap kdOf).length ≤ 458 := by have := HBD.out j; simp only [List.length_append, List.length_cons, List.length_nil]; omega
          have hnx : [78, xs.length] ++ (xs.take (j + 1)).flatMap kdOf = (([78, xs.length] ++ (xs.take j).flatMap kdOf ++ txt ks[j]) ++ highOf kids[j].off.toNat 8) ++ highOf kids[j].ct 8 := by
            have hz := HZ.out j hkl hkd
            rw [List.getElem?_eq_getElem hkx] at hz
            rw [flat_next hkx, Option.some.inj hz]; simp [kdOf]
          have hlt' := hown.lt
          generalize [78, xs.length] ++ (xs.take j).flatMap kdOf = L at *
          generalize hit : ks[j] = it at *
          generalize kids[j] = kd at *
          obtain ⟨off, ct⟩ := kd
          simp only at d0 d1 hoff hct r1 r2 r3 hnx
          obtain ⟨o, rfl⟩ : ∃ o : Nat, off = o := ⟨off.toNat, by omega⟩
          rw [Int.toNat_natCast] at hnx
          have hown1 := hown.alloc (.cells #[.int .i64 (o : Nat), .int .u64 (ct : Nat)] 25)
          have hB1 := hB.alloc hB.size (.cells #[.int .i64 (o : Nat), .int .u64 (ct : Nat)] 25)
          have hblk := heap_alloc_new wr (.cells #[.int .i64 (o : Nat), .int .u64 (ct : Nat)] 25)
          have c0 := (hc.below hB1).one
          simp only [KBytes, Nat.mul_one] at c0
          have hT1 := putText_any (.slice px L.length cx) (.slice qa it.length ca) L it w.heap.size _ hown1 (by omega) hB1.size (ha.below hB1) (fun h0 e => by
            cases px with
            | none => exact absurd (ha.spot 0 (List.length_pos_iff.2 h0)) (by intro ⟨b, o, e2, _⟩; subst e2; simp [Value.ownBlock] at e)
            | some ax =>
              have := (hlt' ax.block rfl).1
              have := ha.old h0 ax.block (by rw [e]; rfl)
              omega) (by omega)
          have hwo : IntKind.u64.wrap (o : Int) = o := by rw [IntKind.wrap_u64]; omega
          have HT1 := Lib.hid hT1; have HB1 := Lib.hid hB1; have HNX := Lib.hid hnx; have HLJ := Lib.hid hlj; have HLT' := Lib.hid hlt'; have HBK := Lib.hid hblk
          have HL : Hid (L.length + (txt it).length ≤ 2000) := by unfold Hid; rw [txt_length]; omega
          have HO : Hid (o < 9223372036854775808) := by unfold Hid; omega
          have HCT : Hid (ct < 9223372036854775808) := by unfold Hid; omega
          clear hT1 hB1 ha hblk hown1 hlt' hnx hL q3 hc hat hc' hat' hown hB hit hkl hkd hkx hoff hct r1 r2 r3
          go_wp2_with fail
          refine HT1.out.mono ?_
          rintro e w2 ⟨v2, rfl, ho2, hg2⟩
          have hb2 : Below w.heap.size w w2 := hg2.below HB1.out HB1.out.size (fun i hi => (HLT'.out i hi).1)
          have hbk2 : w2.heap[wr.heap.size]? = some (.cells #[.int .i64 (o : Nat), .int .u64 (ct : Nat)] 25 (0, 0)) := (hg2.block (by simp) (by intro e; have := (HLT'.out _ e).2; omega)).trans HBK.out
          have e0 := cells_of hbk2 0
          simp only [List.getElem?_toArray, List.getElem?_cons_zero] at e0
          obtain ⟨M, hM⟩ : ∃ M, M = L ++ txt it := ⟨_, rfl⟩
          rw [← hM] at ho2
          have HMM := Lib.hid hM
          have hML : M.length ≤ 2000 := by rw [hM, List.length_append]; exact HL.out
          have HML := Lib.hid hML
          have hwl2 : wr.heap.size < w2.heap.size := (Array.getElem?_eq_some_iff.1 hbk2).1
          have hne2 : v2.ownBlock ≠ some wr.heap.size := by
            rcases hg2.new with h | ⟨g, h, hg⟩
            · rw [h]; intro e; have := (HLT'.out _ e).2; omega
            · rw [h]; intro e; have := Option.some.inj e; simp at hg; omega
          have hT2 := putNumber_any o HO.out v2 M w.heap.size w2 ho2 (by omega) hb2.size
          have HT2 := Lib.hid hT2; have HB2 := Lib.hid hb2; have HLT2 := Lib.hid ho2.lt; have HBK2 := Lib.hid hbk2; have HNE2 := Lib.hid hne2; have HWL2 := Lib.hid hwl2
          clear hT2 hb2 hbk2 ho2 hg2 HT1 HBK c0 d0 d1 hM hML hne2 hwl2
          go_wp2_with fail
          refine HT2.out.mono ?_
          rintro e w3 ⟨v3, rfl, ho3, hg3⟩
          have hb3 : Below w.heap.size w w3 := hg3.below HB2.out HB2.out.size (fun i hi => (HLT2.out i hi).1)
          have hbk3 : w3.heap[wr.heap.size]? = some (.cells #[.int .i64 (o : Nat), .int .u64 (ct : Nat)] 25 (0, 0)) := (hg3.block HWL2.out HNE2.out).trans HBK2.out
          have f1 := cells_of hbk3 1
          simp only [List.getElem?_toArray, List.getElem?_cons_zero, List.getElem?_cons_succ] at f1
          obtain ⟨M2, hM2⟩ : ∃ M2, M2 = M ++ highOf o 8 := ⟨_, rfl⟩
          rw [← hM2] at ho3
          have HMM2 := Lib.hid hM2
          have hT3 := putNumber_any ct HCT.out v3 M2 w.heap.size w3 ho3 (by rw [hM2, List.length_append, highOf_length]; have := HML.out; omega) hb3.size
          have HT3 := Lib.hid hT3; have HB3 := Lib.hid hb3; have HLT3 := Lib.hid ho3.lt
          clear hT3 hb3 hbk3 ho3 hg3 HT2 HBK2 e0 hM2
          go_wp2_with fail
          refine HT3.out.mono ?_
          rintro e w4 ⟨v4, rfl, ho4, hg4⟩
          have hrow4 : InRow w xs v4 (.int .i64 (j + 1 : Nat)) w4 := ⟨j + 1, by have := HZL.out; have := HLJ.out; omega, rfl, by rw [HNX.out, ← HMM.out, ← HMM2.out]; exact ho4, hg4.below HB3.out HB3.out.size (fun i hi => (HLT3.out i hi).1)⟩
          have HROW := Lib.hid hrow4
          clear hrow4 ho4 hg4 HT3 f1
          go_wp2
          go_roundw
          case rel => exact HROW.out
          case measure => simp [intOf]; have := HLJ.out; omega
        · have hjk : j = k := by have := HZL.out; omega
          have hE : [78, xs.length] ++ (xs.take j).flatMap kdOf = 78 :: k :: xs.flatMap kdOf := by
            rw [List.take_of_length_le (by rw [← HZL.out]; omega), ← HZL.out]; rfl
          rw [hE] at hown ⊢
          have HO := Lib.hid hown; have HB := Lib.hid hB
          clear hown hB hE hj
          subst hjk
          go_wp2
          go_ret
          exact ⟨_, rfl, HO.out, HB.out⟩
set_option maxRecDepth 100000 in
theorem put_any {w : World} {v : Value} {n : Nd} {pi pk pd : Option Addr} {ci ck cd : Nat} (h : IsNd w v n pi ci pk ck pd cd) :
    Calls Tryz.prog 124 #[v] w (Rows w (putNd n)) := by
  have hv := h.val
  have hb := (Below.refl w.heap.size w).alloc (Nat.le_refl _) (.cells #[.bool n.leaf, .slice pi n.its.length ci, .slice pk n.ks.length ck, .slice pd n.kids.length cd] 38)
  have HM := Lib.hid (may_any (h.below hb))
  have hx := NdAt.new w n pi ci pk ck pd cd
  have HX := Lib.hid hx
  have HB := Lib.hid hb
  have HI := Lib.hid (h.below hb)
  subst hv
  obtain ⟨R, hR⟩ : ∃ R, R = putNd n := ⟨_, rfl⟩
  have HRR := Lib.hid hR
  rw [← hR]
  clear hb h hx hR
  go_enter Tryz.func124, Tryz.ntmps124
  go_wp2_with fail
  refine HM.out.mono ?_
  rintro e w1 ⟨rfl, hb1⟩
  have HB1 : Hid (Below w.heap.size w w1) := HB.out.trans (hb1.mono HB.out.size)
  have HX1 := Lib.hid (HX.out.below hb1); have HI1 := Lib.hid (HI.out.below hb1)
  clear hb1 HX HI HM
  cases hm : mayNd n with
  | false =>
    have E : Hid (R = []) := by unfold Hid; rw [HRR.out]; unfold putNd; rw [hm]; rfl
    clear hm
    go_wp2
    go_ret
    exact ⟨_, rfl, by rw [E.out]; exact World.ownsRow_nil _ _ _ _, HB1.out⟩
  | true =>
    have E : Hid (R = ndOf n) := by unfold Hid; rw [HRR.out]; unfold putNd; rw [hm]; rfl
    obtain ⟨c0, c1, c2, c3⟩ := HX1.out.cells
    cases hl : n.leaf with
    | true =>
      obtain ⟨m1, m2, _, _, _⟩ := may_lf hl hm
      have E2 : R = 76 :: n.its.length :: n.its.flatMap itOf := by rw [E.out]; exact ndOf_lf hl
      have HP := Lib.hid (putLeaf_any pi ci n.its w1 HI1.out.its m2 m1.2)
      rw [← E2] at HP
      rw [hl] at c0
      clear hm hl m1 m2 E2
      go_wp2_with fail
      refine HP.out.mono ?_
      rintro e w2 ⟨v2, rfl, ho, hb2⟩
      have HO := Lib.hid ho; have HB2 : Hid (Below w.heap.size w w2) := HB1.out.trans (hb2.mono HB1.out.size)
      obtain ⟨p2, c2', rfl⟩ := shape_of ho
      clear ho hb2
      go_wp2
      go_ret
      exact ⟨_, rfl, owns_base HO.out HB1.out.size, HB2.out⟩
    | false =>
      obtain ⟨m1, m2, m3, _, m4, _⟩ := may_in hl hm
      have E2 : R = 78 :: n.kids.length :: (n.ks.zip n.kids).flatMap kdOf := by rw [E.out]; exact ndOf_in hl
      have HP := Lib.hid (putInner_any pk pd ck cd n.ks n.kids w1 HI1.out.ks HI1.out.kids m2 m3 m4 m1.2)
      rw [← E2] at HP
      rw [hl] at c0
      clear hm hl m1 m2 m3 m4 E2
      go_wp2_with fail
      refine HP.out.mono ?_
      rintro e w2 ⟨v2, rfl, ho, hb2⟩
      have HO := Lib.hid ho; have HB2 : Hid (Below w.heap.size w w2) := HB1.out.trans (hb2.mono HB1.out.size)
      obtain ⟨p2, c2', rfl⟩ := shape_of ho
      clear ho hb2
      go_wp2
      go_ret
      exact ⟨_, rfl, owns_base HO.out HB1.out.size, HB2.out⟩
end Go.Proofs.YtlagllhhahomlaaGreat.Sl.Nd
/- Rows of items, of keys, of trees that are one's own. -/
namespace Go.By
open Go Go.RowKit
structure Only (A : Nat) (w w' : World) : Prop where
  os : w'.os = w.os
  tape : w'.tape = w.tape
  output : w'.output = w.output
  size : w.heap.size ≤ w'.heap.size
  block : ∀ k, k < w.heap.size → k ≠ A → w'.heap[k]? = w.heap[k]?
theorem Only.refl (A : Nat) (w : World) : Only A w w := ⟨rfl, rfl, rfl, Nat.le_refl _, fun _ _ _ => rfl⟩
theorem Only.of_below {A : Nat} {w w' : World} (h : Below w.heap.size w w') : Only A w w' := ⟨h.os, h.tape, h.output, h.size, fun k hk _ => h.block k hk⟩
theorem Only.trans {A : Nat} {w w1 w2 : World} (h : Only A w w1) (h2 : Only A w1 w2) : Only A w w2 :=
  ⟨h2.os.trans h.os, h2.tape.trans h.tape, h2.output.trans h.output, Nat.le_trans h.size h2.size, fun k hk hne => (h2.block k (Nat.lt_of_lt_of_le hk h.size) hne).trans (h.block k hk hne)⟩
theorem Only.set (A i : Nat) (w : World) (v : Value) : Only A w (w.setCell ⟨A, i, none⟩ v) :=
  ⟨rfl, rfl, rfl, by simp [World.setCell], fun k _ hne => heap_setCell_other w ⟨A, i, none⟩ k v hne⟩
theorem Only.drewN (A : Nat) (w : World) (n : Nat) : Only A w (w.drewN n) := ⟨rfl, rfl, rfl, Nat.le_refl _, fun _ _ _ => rfl⟩
theorem Only.alloc (A : Nat) (w : World) (o : Obj) : Only A w (w.alloc o) := Only.of_below ((Below.refl _ _).alloc (Nat.le_refl _) _)
theorem Below.only {B A : Nat} {w0 w w' : World} (h : Below B w0 w) (hB : B ≤ A) (hw : B ≤ w.heap.size) (h2 : Only A w w') : Below B w0 w' :=
  ⟨h2.os.trans h.os, h2.tape.trans h.tape, h2.output.trans h.output, Nat.le_trans h.size h2.size, fun k hk => (h2.block k (by omega) (by omega)).trans (h.block k hk)⟩
structure Only2 (A t : Nat) (w w' : World) : Prop where
  os : w'.os = w.os
  tape : w'.tape = w.tape
  output : w'.output = w.output
  size : w.heap.size ≤ w'.heap.size
  block : ∀ k, k < w.heap.size → k ≠ A → k ≠ t → w'.heap[k]? = w.heap[k]?
theorem Only.two {A : Nat} {w w' : World} (h : Only A w w') (t : Nat) : Only2 A t w w' := ⟨h.os, h.tape, h.output, h.size, fun k hk h1 _ => h.block k hk h1⟩
theorem Only2.trans {A t : Nat} {w w1 w2 : World} (h : Only2 A t w w1) (h2 : Only2 A t w1 w2) : Only2 A t w w2 :=
  ⟨h2.os.trans h.os, h2.tape.trans h.tape, h2.output.trans h.output, Nat.le_trans h.size h2.size, fun k hk hne hnt => (h2.block k (Nat.lt_of_lt_of_le hk h.size) hne hnt).trans (h.block k hk hne hnt)⟩
theorem Only2.set (A t i : Nat) (w : World) (v : Value) : Only2 A t w (w.setCell ⟨t, i, none⟩ v) :=
  ⟨rfl, rfl, rfl, by simp [World.setCell], fun k _ _ hne => heap_setCell_other w ⟨t, i, none⟩ k v hne⟩
theorem Only.then2 {A t : Nat} {w w1 w2 : World} (h : Only A w w1) (h2 : Only2 A t w1 w2) (ht : w.heap.size ≤ t) : Only A w w2 :=
  ⟨h2.os.trans h.os, h2.tape.trans h.tape, h2.output.trans h.output, Nat.le_trans h.size h2.size, fun k hk hne => (h2.block k (Nat.lt_of_lt_of_le hk h.size) hne (by omega)).trans (h.block k hk hne)⟩
theorem owns_stay {w w' : World} {base s : Nat} {e : TypeId} {v : Value} {n : Nat} {xs : List Value} (h : w.ownsRow base e s v n xs) (hk : ∀ k, v.ownBlock = some k → w'.heap[k]? = w.heap[k]?) : w'.ownsRow base e s v n xs := by
  refine ⟨h.1, ?_⟩
  rcases h.2 with h2 | ⟨g, cap, cur, h1, h2, h3, h4⟩
  · exact .inl h2
  · exact .inr ⟨g, cap, cur, h1, h2, (hk g (by rw [h1]; rfl)).trans h3, h4⟩
theorem owns_ne {w : World} {base s : Nat} {e T : TypeId} {v : Value} {n : Nat} {xs : List Value} (h : w.ownsRow base e s v n xs) {b : Nat} {c : Array Value} {fr : Nat × Nat} (hb : w.heap[b]? = some (.cells c T fr)) (hne : e ≠ T) : v.ownBlock ≠ some b := by
  intro he
  rcases h.2 with ⟨h2, _⟩ | ⟨g, cap, cur, h1, h2, h3, h4⟩
  · rw [h2] at he; cases he
  · rw [h1] at he
    obtain rfl : g = b := by simpa [Value.ownBlock] using he
    rw [h3] at hb
    simp only [Option.some.injEq, Obj.cells.injEq] at hb
    exact hne hb.2.1
theorem owns_apart {w : World} {base s base' s' : Nat} {e e' : TypeId} {v v' : Value} {n n' : Nat} {xs xs' : List Value} (h : w.ownsRow base e s v n xs) (h' : w.ownsRow base' e' s' v' n' xs') (hne : e ≠ e') : ∀ k, v.ownBlock = some k → v'.ownBlock ≠ some k := by
  intro k hk he
  rcases h'.2 with ⟨h2, _⟩ | ⟨g, cap, cur, h1, h2, h3, h4⟩
  · rw [h2] at he; cases he
  · rw [h1] at he
    obtain rfl : g = k := by simpa [Value.ownBlock] using he
    exact owns_ne h h3 hne hk
theorem owns_only {w w' : World} {base s b : Nat} {e T : TypeId} {v : Value} {n : Nat} {xs : List Value} {c : Array Value} {fr : Nat × Nat} (h : w.ownsRow base e s v n xs) (hb : w.heap[b]? = some (.cells c T fr)) (hne : e ≠ T) (ho : Only b w w') : w'.ownsRow base e s v n xs :=
  owns_stay h (fun k hk => ho.block k (h.lt k hk).2 (fun e => owns_ne h hb hne (by rw [hk, e])))
theorem owns_grows {w w' : World} {base s base' s' : Nat} {e e' : TypeId} {v u u' : Value} {n n' : Nat} {xs xs' : List Value} (h : w.ownsRow base e s v n xs) (h' : w.ownsRow base' e' s' u n' xs') (hne : e ≠ e') (hg : Grows w w' u u') : w'.ownsRow base e s v n xs :=
  owns_stay h (fun k hk => hg.block (h.lt k hk).2 (owns_apart h h' hne k hk))
theorem owns_below' {w w' : World} {base s : Nat} {e : TypeId} {v : Value} {n : Nat} {xs : List Value} (h : w.ownsRow base e s v n xs) (hb : Below w.heap.size w w') : w'.ownsRow base e s v n xs :=
  owns_stay h (fun k hk => hb.block k (h.lt k hk).2)
end Go.By
namespace Go.Proofs.YtlagllhhahomlaaGreat.Sl.Nd
open Go Go.RowKit Go.By
def Txt (w : World) (B : Nat) (v : Value) (l : List Nat) : Prop := w.ownsRow B 5 1 v l.length (cellsOf l) ∧ (∀ c ∈ l, c < 256) ∧ l.length ≤ maxLen
theorem Txt.bytes {w : World} {B : Nat} {v : Value} {l : List Nat} (h : Txt w B v l) : Bytes w v l := Bytes.of_owns h.1 h.2.1 h.2.2
theorem Txt.nil (w : World) (B : Nat) : Txt w B (.slice none 0 0) [] := ⟨World.ownsRow_nil _ _ _ _, by simp, by simp⟩
def itCells (c : Value × Value) : List Value := [c.1, c.2]
def ItRow (w : World) (B : Nat) (v : Value) (its : List NIt) : Prop :=
  ∃ cs : List (Value × Value), cs.length = its.length ∧ w.ownsRow B 49 2 v its.length (cs.flatMap itCells) ∧ ∀ j (h : j < its.length) (h' : j < cs.length), Txt w B cs[j].1 its[j].k ∧ Txt w B cs[j].2 its[j].v
def KyRow (w : World) (B : Nat) (v : Value) (ks : List (List Nat)) : Prop :=
  ∃ cs : List Value, cs.length = ks.length ∧ w.ownsRow B 26 1 v ks.length cs ∧ ∀ j (h : j < ks.length) (h' : j < cs.length), Txt w B cs[j] ks[j]
theorem ItRow.nil (w : World) (B : Nat) : ItRow w B (.slice none 0 0) [] := ⟨[], rfl, World.ownsRow_nil _ _ _ _, fun _j h => absurd h (Nat.not_lt_zero _)⟩
theorem KyRow.nil (w : World) (B : Nat) : KyRow w B (.slice none 0 0) [] := ⟨[], rfl, World.ownsRow_nil _ _ _ _, fun _j h => absurd h (Nat.not_lt_zero _)⟩
theorem Txt.onlyT {w w' : World} {B b : Nat} {v : Value} {c : Array Value} {T : TypeId} {fr : Nat × Nat} {l : List Nat} (h : Txt w B v l) (hb : w.heap[b]? = some (.cells c T fr)) (hT : 5 ≠ T) (ho : Only b w w') : Txt w' B v l := ⟨owns_only h.1 hb hT ho, h.2⟩
theorem ItRow.onlyT {w w' : World} {B b : Nat} {v : Value} {c : Array Value} {T : TypeId} {fr : Nat × Nat} {its : List NIt} (h : ItRow w B v its) (hb : w.heap[b]? = some (.cells c T fr)) (hT : 5 ≠ T ∧ 49 ≠ T) (ho : Only b w w') : ItRow w' B v its := by
  obtain ⟨cs, h1, h2, h3⟩ := h
  exact ⟨cs, h1, owns_only h2 hb hT.2 ho, fun j hj hj' => ⟨(h3 j hj hj').1.onlyT hb hT.1 ho, (h3 j hj hj').2.onlyT hb hT.1 ho⟩⟩
theorem ty_item : 5 ≠ 49 := by decide
theorem ty_row : 5 ≠ 26 := by decide
section
variable {w w' : World} {B : Nat} {v : Value}
theorem Txt.below' {l : List Nat} (h : Txt w B v l) (hb : Below w.heap.size w w') : Txt w' B v l := ⟨owns_below' h.1 hb, h.2⟩
theorem ItRow.below' {its : List NIt} (h : ItRow w B v its) (hb : Below w.heap.size w w') : ItRow w' B v its := by
  obtain ⟨cs, h1, h2, h3⟩ := h
  exact ⟨cs, h1, owns_below' h2 hb, fun j hj hj' => ⟨(h3 j hj hj').1.below' hb, (h3 j hj hj').2.below' hb⟩⟩
theorem KyRow.below' {ks : List (List Nat)} (h : KyRow w B v ks) (hb : Below w.heap.size w w') : KyRow w' B v ks := by
  obtain ⟨cs, h1, h2, h3⟩ := h
  exact ⟨cs, h1, owns_below' h2 hb, fun j hj hj' => (h3 j hj hj').below' hb⟩
end
set_option maxRecDepth 1000000 in
theorem info_item : ∃ i, Tryz.prog.info? 49 = some i ∧ i.zero = some (.agg #[.slice none 0 0, .slice none 0 0]) ∧ i.size = 2 ∧ i.bytes = 48 := ⟨_, rfl, rfl, rfl, rfl⟩
set_option maxRecDepth 1000000 in
theorem info_row : ∃ i, Tryz.prog.info? 26 = some i ∧ i.zero = some (.slice none 0 0) ∧ i.size = 1 ∧ i.bytes = 24 := ⟨_, rfl, rfl, rfl, rfl⟩
theorem ItRow.push {w : World} {B : Nat} {v a c : Value} {its : List NIt} {it : NIt} (h : ItRow w B v its) (hn : its.length ≤ 1000000) (hB : B ≤ w.heap.size) (ha : Txt w B a it.k) (hc : Txt w B c it.v) :
    ∃ v' w', (Builtin.append_ #[35, 35] 35 #[v, .slice (some ⟨w.heap.size, 0, none⟩) 1 1]).run Tryz.prog (w.alloc (.cells #[a, c] 49)) = .ok v' w' ∧ ItRow w' B v' (its ++ [it]) ∧ Grows w w' v v' := by
  obtain ⟨cs, h1, h2, h3⟩ := h
  obtain ⟨i, hi, hz, hs, hby⟩ := info_item
  obtain ⟨pa, ca, rfl, -⟩ := ha.bytes.any
  obtain ⟨pc, cc, rfl, -⟩ := hc.bytes.any
  obtain ⟨v', w', hr, ho, hg⟩ := run_append_grows (P := Tryz.prog) (w := w.alloc (.cells #[.slice pa it.k.length ca, .slice pc it.v.length cc] 49)) 35 (t := 35) (e := 49) (by kernel_rfl) hi hz hs hby rfl (by decide) B v its.length (cs.flatMap itCells) (h2.alloc _) w.heap.size 0 1 1 [.slice pa it.k.length ca, .slice pc it.v.length cc] rfl (by
    intro j u hu
    rw [Nat.zero_add]
    have := cells_of (heap_alloc_new w (.cells #[.slice pa it.k.length ca, .slice pc it.v.length cc] 49)) j
    rw [this]
    simpa using hu) (by simp [Value.oneCell']) (by unfold maxLen; omega) (by omega) (by simp; omega)
  have hga := (Grows.alloc w v (.cells #[.slice pa it.k.length ca, .slice pc it.v.length cc] 49)).trans hg
  have keep : ∀ {x : Value} {l : List Nat}, Txt w B x l → Txt w' B x l := fun hx => ⟨owns_grows hx.1 h2 ty_item hga, hx.2⟩
  refine ⟨v', w', hr, ⟨cs ++ [(.slice pa it.k.length ca, .slice pc it.v.length cc)], by simp [h1], by simpa [itCells] using ho, fun j hj hj' => ?_⟩, hga⟩
  by_cases hlt : j < its.length
  · rw [List.getElem_append_left hlt, List.getElem_append_left (by omega)]
    exact ⟨keep (h3 j hlt (by omega)).1, keep (h3 j hlt (by omega)).2⟩
  · obtain rfl : j = its.length := by simp at hj; omega
    rw [List.getElem_append_right (Nat.le_refl _), List.getElem_append_right (by omega)]
    simp only [h1, Nat.sub_self, List.getElem_singleton]
    exact ⟨keep ha, keep hc⟩
theorem KyRow.push {w : World} {B : Nat} {v a : Value} {ks : List (List Nat)} {k : List Nat} (h : KyRow w B v ks) (hn : ks.length ≤ 1000000) (hB : B ≤ w.heap.size) (ha : Txt w B a k) :
    ∃ v' w', (Builtin.append_ #[36, 36] 36 #[v, .slice (some ⟨w.heap.size, 0, none⟩) 1 1]).run Tryz.prog (w.alloc (.cells #[a] 26)) = .ok v' w' ∧ KyRow w' B v' (ks ++ [k]) ∧ Grows w w' v v' := by
  obtain ⟨cs, h1, h2, h3⟩ := h
  obtain ⟨i, hi, hz, hs, hby⟩ := info_row
  obtain ⟨pa, ca, rfl, -⟩ := ha.bytes.any
  obtain ⟨v', w', hr, ho, hg⟩ := run_append_grows (P := Tryz.prog) (w := w.alloc (.cells #[.slice pa k.length ca] 26)) 36 (t := 36) (e := 26) (by kernel_rfl) hi hz hs hby rfl (by decide) B v ks.length cs (h2.alloc _) w.heap.size 0 1 1 [.slice pa k.length ca] rfl (by
    intro j u hu
    rw [Nat.zero_add]
    have := cells_of (heap_alloc_new w (.cells #[.slice pa k.length ca] 26)) j
    rw [this]
    simpa using hu) (by simp [Value.oneCell']) (by unfold maxLen; omega) (by omega) (by simp; omega)
  have hga := (Grows.alloc w v (.cells #[.slice pa k.length ca] 26)).trans hg
  have keep : ∀ {x : Value} {l : List Nat}, Txt w B x l → Txt w' B x l := fun hx => ⟨owns_grows hx.1 h2 ty_row hga, hx.2⟩
  refine ⟨v', w', hr, ⟨cs ++ [.slice pa k.length ca], by simp [h1], by simpa using ho, fun j hj hj' => ?_⟩, hga⟩
  by_cases hlt : j < ks.length
  · rw [List.getElem_append_left hlt, List.getElem_append_left (by omega)]
    exact keep (h3 j hlt (by omega))
  · obtain rfl : j = ks.length := by simp at hj; omega
    rw [List.getElem_append_right (Nat.le_refl _), List.getElem_append_right (by omega)]
    simp only [h1, Nat.sub_self, List.getElem_singleton]
    exact keep ha
theorem flat_two {α : Type} {f : α → List Value} (hf : ∀ x, (f x).length = 2) : ∀ {xs : List α} {j i : Nat} (h : j < xs.length), i < 2 → (xs.flatMap f)[j * 2 + i]? = (f xs[j])[i]?
  | x :: xs, 0, i, _, hi => by
    rw [List.flatMap_cons, Nat.zero_mul, Nat.zero_add, List.getElem?_append_left (by rw [hf]; exact hi)]
    rfl
  | x :: xs, j + 1, i, h, hi => by
    rw [List.flatMap_cons, List.getElem?_append_right (by rw [hf]; omega), hf, show (j + 1) * 2 + i - 2 = j * 2 + i by omega]
    exact flat_two hf (by simpa using h) hi
theorem owns_at {w : World} {B s : Nat} {e : TypeId} {v : Value} {n : Nat} {xs : List Value} (h : w.ownsRow B e s v n xs) (_hs : 0 < s) : ∃ p cap, v = .slice p n cap ∧ n ≤ cap ∧ cap ≤ maxLen ∧ ∀ j u, xs[j]? = some u → ∃ g, p = some ⟨g, 0, none⟩ ∧ w.cell? ⟨g, 0 + j, none⟩ = some u := by
  rcases h.2 with ⟨rfl, rfl⟩ | ⟨g, cap, cur, rfl, h1, h2, h3, h4, h5, h6⟩
  · refine ⟨none, 0, rfl, Nat.le_refl _, by decide, fun j u hu => ?_⟩
    have := h.1
    rw [Nat.zero_mul] at this
    rw [List.eq_nil_of_length_eq_zero this] at hu
    cases hu
  · refine ⟨_, cap, rfl, h3, h4, fun j u hu => ⟨g, rfl, ?_⟩⟩
    have := h.cells (g := g) rfl j u hu
    rw [Addr.add_lit] at this
    exact this
theorem ItRow.at_ {w : World} {B : Nat} {v : Value} {its : List NIt} (h : ItRow w B v its) : ∃ p cap, v = .slice p its.length cap ∧ RowAt KItem w p cap its := by
  obtain ⟨cs, h1, h2, h3⟩ := h
  obtain ⟨p, cap, rfl, q1, q2, q3⟩ := owns_at h2 (by decide)
  refine ⟨p, cap, rfl, q1, q2, fun j hj => ?_⟩
  have hj' : j < cs.length := by omega
  have e0 := flat_two (f := itCells) (fun _ => rfl) (xs := cs) (j := j) (i := 0) hj' (by decide)
  have e1 := flat_two (f := itCells) (fun _ => rfl) (xs := cs) (j := j) (i := 1) hj' (by decide)
  obtain ⟨g, rfl, c0⟩ := q3 _ cs[j].1 (by rw [e0]; rfl)
  obtain ⟨g', hg', c1⟩ := q3 _ cs[j].2 (by rw [e1]; rfl)
  obtain rfl : g = g' := by simpa using hg'
  refine ⟨g, 0, [cs[j].1, cs[j].2], rfl, fun i hi => ?_, cs[j].1, cs[j].2, rfl, (h3 j hj hj').1.bytes, (h3 j hj hj').2.bytes⟩
  match i, hi with
  | 0, _ => simpa [KItem] using c0
  | 1, _ => simpa [KItem, Nat.add_assoc] using c1
theorem KyRow.at_ {w : World} {B : Nat} {v : Value} {ks : List (List Nat)} (h : KyRow w B v ks) : ∃ p cap, v = .slice p ks.length cap ∧ RowAt KBytes w p cap ks := by
  obtain ⟨cs, h1, h2, h3⟩ := h
  obtain ⟨p, cap, rfl, q1, q2, q3⟩ := owns_at h2 (by decide)
  refine ⟨p, cap, rfl, q1, q2, fun j hj => ?_⟩
  have hj' : j < cs.length := by omega
  obtain ⟨g, rfl, c0⟩ := q3 j cs[j] (List.getElem?_eq_getElem hj')
  refine ⟨g, 0, [cs[j]], rfl, fun i hi => ?_, cs[j], rfl, (h3 j hj hj').bytes⟩
  match i, hi with
  | 0, _ => simpa [KBytes] using c0
end Go.Proofs.YtlagllhhahomlaaGreat.Sl.Nd
/- Rows of trees that are one's own. -/
namespace Go.Proofs.YtlagllhhahomlaaGreat.Sl.Nd
open Go Go.RowKit Go.By
def kdCells (d : NKd) : List Value := [.int .i64 d.off, .int .u64 (d.ct : Nat)]
def KdRow (w : World) (B : Nat) (v : Value) (kids : List NKd) : Prop :=
  w.ownsRow B 25 2 v kids.length (kids.flatMap kdCells) ∧ ∀ d ∈ kids, d.off ≤ 9223372036854775807 ∧ d.ct < 18446744073709551616
theorem KdRow.nil (w : World) (B : Nat) : KdRow w B (.slice none 0 0) [] := ⟨World.ownsRow_nil _ _ _ _, by simp⟩
theorem KdRow.below' {w w' : World} {B : Nat} {v : Value} {kids : List NKd} (h : KdRow w B v kids) (hb : Below w.heap.size w w') : KdRow w' B v kids := ⟨owns_below' h.1 hb, h.2⟩
set_option maxRecDepth 1000000 in
theorem info_ref : ∃ i, Tryz.prog.info? 25 = some i ∧ i.zero = some (.agg #[.int .i64 0, .int .u64 0]) ∧ i.size = 2 ∧ i.bytes = 16 := ⟨_, rfl, rfl, rfl, rfl⟩
theorem KdRow.push {w : World} {B : Nat} {v : Value} {kids : List NKd} {d : NKd} (h : KdRow w B v kids) (hn : kids.length ≤ 1000000) (hB : B ≤ w.heap.size) (hd : d.off ≤ 9223372036854775807 ∧ d.ct < 18446744073709551616) :
    ∃ v' w', (Builtin.append_ #[34, 34] 34 #[v, .slice (some ⟨w.heap.size, 0, none⟩) 1 1]).run Tryz.prog (w.alloc (.cells #[.int .i64 d.off, .int .u64 (d.ct : Nat)] 25)) = .ok v' w' ∧ KdRow w' B v' (kids ++ [d]) ∧ Grows w w' v v' := by
  obtain ⟨h2, h3⟩ := h
  obtain ⟨i, hi, hz, hs, hby⟩ := info_ref
  obtain ⟨v', w', hr, ho, hg⟩ := run_append_grows (P := Tryz.prog) (w := w.alloc (.cells #[.int .i64 d.off, .int .u64 (d.ct : Nat)] 25)) 34 (t := 34) (e := 25) (by kernel_rfl) hi hz hs hby rfl (by decide) B v kids.length (kids.flatMap kdCells) (h2.alloc _) w.heap.size 0 1 1 [.int .i64 d.off, .int .u64 (d.ct : Nat)] rfl (by
    intro j u hu
    rw [Nat.zero_add]
    have := cells_of (heap_alloc_new w (.cells #[.int .i64 d.off, .int .u64 (d.ct : Nat)] 25)) j
    rw [this]
    simpa using hu) (by simp [Value.oneCell']) (by unfold maxLen; omega) (by omega) (by simp; omega)
  refine ⟨v', w', hr, ⟨by simpa [kdCells] using ho, fun x hx => ?_⟩, (Grows.alloc _ _ _).trans hg⟩
  rcases List.mem_append.1 hx with hx | hx
  · exact h3 x hx
  · obtain rfl : x = d := by simpa using hx
    exact hd
theorem KdRow.at_ {w : World} {B : Nat} {v : Value} {kids : List NKd} (h : KdRow w B v kids) : ∃ p cap, v = .slice p kids.length cap ∧ RowAt KRef w p cap kids := by
  obtain ⟨h2, h3⟩ := h
  obtain ⟨p, cap, rfl, q1, q2, q3⟩ := owns_at h2 (by decide)
  refine ⟨p, cap, rfl, q1, q2, fun j hj => ?_⟩
  have e0 := flat_two (f := kdCells) (fun _ => rfl) (xs := kids) (j := j) (i := 0) hj (by decide)
  have e1 := flat_two (f := kdCells) (fun _ => rfl) (xs := kids) (j := j) (i := 1) hj (by decide)
  obtain ⟨g, rfl, c0⟩ := q3 _ (.int .i64 kids[j].off) (by rw [e0]; rfl)
  obtain ⟨g', hg', c1⟩ := q3 _ (.int .u64 (kids[j].ct : Nat)) (by rw [e1]; rfl)
  obtain rfl : g = g' := by simpa using hg'
  refine ⟨g, 0, [.int .i64 kids[j].off, .int .u64 (kids[j].ct : Nat)], rfl, fun i hi => ?_, rfl, h3 _ (List.getElem_mem hj)⟩
  match i, hi with
  | 0, _ => simpa [KRef] using c0
  | 1, _ => simpa [KRef, Nat.add_assoc] using c1
end Go.Proofs.YtlagllhhahomlaaGreat.Sl.Nd
/- Nodes in a program: rows that are being read. -/
namespace Go.Proofs.YtlagllhhahomlaaGreat.Sl.Nd
open Go Go.RowKit Go.By
theorem ty_ne : 5 ≠ 226 ∧ 49 ≠ 226 ∧ 26 ≠ 226 ∧ 25 ≠ 226 ∧ 5 ≠ 49 ∧ 5 ≠ 26 ∧ 5 ≠ 25 ∧ 26 ≠ 25 := by decide
section
variable {w w' : World} {B b : Nat} {v u u' : Value} {c : Array Value} {fr : Nat × Nat}
theorem Txt.only {l : List Nat} (h : Txt w B v l) (hb : w.heap[b]? = some (.cells c 226 fr)) (ho : Only b w w') : Txt w' B v l := ⟨owns_only h.1 hb ty_ne.1 ho, h.2⟩
theorem ItRow.only {its : List NIt} (h : ItRow w B v its) (hb : w.heap[b]? = some (.cells c 226 fr)) (ho : Only b w w') : ItRow w' B v its := by
  obtain ⟨cs, h1, h2, h3⟩ := h
  exact ⟨cs, h1, owns_only h2 hb ty_ne.2.1 ho, fun j hj hj' => ⟨(h3 j hj hj').1.only hb ho, (h3 j hj hj').2.only hb ho⟩⟩
theorem KyRow.only {ks : List (List Nat)} (h : KyRow w B v ks) (hb : w.heap[b]? = some (.cells c 226 fr)) (ho : Only b w w') : KyRow w' B v ks := by
  obtain ⟨cs, h1, h2, h3⟩ := h
  exact ⟨cs, h1, owns_only h2 hb ty_ne.2.2.1 ho, fun j hj hj' => (h3 j hj hj').only hb ho⟩
theorem KdRow.only {kids : List NKd} (h : KdRow w B v kids) (hb : w.heap[b]? = some (.cells c 226 fr)) (ho : Only b w w') : KdRow w' B v kids := ⟨owns_only h.1 hb ty_ne.2.2.2.1 ho, h.2⟩
end
end Go.Proofs.YtlagllhhahomlaaGreat.Sl.Nd
/- Nodes in a program: the reader's parts. -/
namespace Go.By
open Go Go.RowKit
theorem or_byte64 (n c : Nat) (hn : n < 72057594037927936) (hc : c < 256) : bits .or .u64 ((n * 256 : Nat) : Int) (c : Int) = ((n * 256 + c : Nat) : Int) := by
  have h := Nat.two_pow_add_eq_or_of_lt (i := 8) (b := c) hc n
  rw [(bits_nat .u64 64 (by decide) (fun n h0 h1 => by rw [IntKind.wrap_u64]; omega) (n * 256) c (by omega) (by omega)).2]
  have h3 : n * 256 ||| c = n * 256 + c := by rw [show n * 256 = 2 ^ 8 * n by omega, ← h]
  rw [h3]
theorem pTake_at {l : List Nat} {i n : Nat} (h : i + n ≤ l.length) : pTake n (l.drop i) = some (pc l i n, l.drop (i + n)) := by
  unfold pTake pc
  rw [if_pos (by rw [List.length_drop]; omega), List.drop_drop]
theorem pTake_no {l : List Nat} {i n : Nat} (h : ¬ i + n ≤ l.length) (hi : i ≤ l.length) : pTake n (l.drop i) = none := by
  unfold pTake
  rw [if_neg (by rw [List.length_drop]; omega)]
theorem drop_atN {l : List Nat} {i : Nat} (h : i < l.length) : l.drop i = atB l i :: l.drop (i + 1) := by
  rw [List.drop_eq_getElem_cons h, atB_of h]
theorem pText_at {l : List Nat} {i : Nat} (h : i + 1 + atB l i ≤ l.length) : pText (l.drop i) = some (pc l (i + 1) (atB l i), l.drop (i + 1 + atB l i)) := by
  rw [drop_atN (by omega)]
  exact pTake_at h
theorem pText_no {l : List Nat} {i : Nat} (h : ¬ i + 1 + atB l i ≤ l.length) (hi : i ≤ l.length) : pText (l.drop i) = none := by
  by_cases h1 : i < l.length
  · rw [drop_atN h1]
    exact pTake_no h (by omega)
  · rw [List.drop_of_length_le (by omega)]
    rfl
theorem pc_one {l : List Nat} {i : Nat} (h : i + 1 ≤ l.length) : pc l i 1 = [atB l i] := by
  unfold pc
  rw [List.drop_eq_getElem_cons (by omega), atB_of (by omega)]
  rfl
end Go.By
namespace Go.Proofs.YtlagllhhahomlaaGreat.Sl.Nd
open Go Go.RowKit Go.By
def RdAt (w : World) (b : Nat) (sv : Value) (i : Nat) (lf : Bool) (iv kv dv fv : Value) : Prop := w.heap[b]? = some (.cells #[sv, .int .i64 i, .bool lf, iv, kv, dv, fv] 226 (0, 0))
section
variable {w : World} {b i : Nat} {sv : Value} {lf : Bool} {iv kv dv fv : Value}
theorem RdAt.lt (h : RdAt w b sv i lf iv kv dv fv) : b < w.heap.size := (Array.getElem?_eq_some_iff.1 h).1
theorem RdAt.setAt (h : RdAt w b sv i lf iv kv dv fv) (x : Nat) : RdAt (w.setCell ⟨b, 1, none⟩ (.int .i64 x)) b sv x lf iv kv dv fv := set_heap h 1 _
theorem RdAt.setLf (h : RdAt w b sv i lf iv kv dv fv) (x : Bool) : RdAt (w.setCell ⟨b, 2, none⟩ (.bool x)) b sv i x iv kv dv fv := set_heap h 2 _
theorem RdAt.setIv (h : RdAt w b sv i lf iv kv dv fv) (x : Value) : RdAt (w.setCell ⟨b, 3, none⟩ x) b sv i lf x kv dv fv := set_heap h 3 _
theorem RdAt.setKv (h : RdAt w b sv i lf iv kv dv fv) (x : Value) : RdAt (w.setCell ⟨b, 4, none⟩ x) b sv i lf iv x dv fv := set_heap h 4 _
theorem RdAt.setDv (h : RdAt w b sv i lf iv kv dv fv) (x : Value) : RdAt (w.setCell ⟨b, 5, none⟩ x) b sv i lf iv kv x fv := set_heap h 5 _
theorem RdAt.setFv (h : RdAt w b sv i lf iv kv dv fv) (x : Value) : RdAt (w.setCell ⟨b, 6, none⟩ x) b sv i lf iv kv dv x := set_heap h 6 _
theorem RdAt.below' {w' : World} (h : RdAt w b sv i lf iv kv dv fv) (hb : Below w.heap.size w w') : RdAt w' b sv i lf iv kv dv fv := (hb.block _ h.lt).trans h
end
def NextNo (b : Nat) (w : World) (sv : Value) (i : Nat) (lf : Bool) (iv kv dv fv : Value) (e : Ending) (w' : World) : Prop :=
  e = .returned (.tuple #[.slice none 0 0, .bool false]) ∧ RdAt w' b sv i lf iv kv dv fv ∧ Only b w w'
def NextYes (w0 : World) (b : Nat) (w : World) (sv : Value) (l : List Nat) (i n : Nat) (lf : Bool) (iv kv dv fv : Value) (e : Ending) (w' : World) : Prop :=
  ∃ u c, e = .returned (.tuple #[.slice u n c, .bool true]) ∧ Bytes w0 (.slice u n c) (pc l i n) ∧ RdAt w' b sv (i + n) lf iv kv dv fv ∧ Only b w w'
def SizeTold (b : Nat) (w : World) (sv : Value) (l : List Nat) (i : Nat) (lf : Bool) (iv kv dv fv : Value) (e : Ending) (w' : World) : Prop :=
  (i < l.length ∧ e = .returned (.tuple #[.int .i64 (atB l i : Nat), .bool true]) ∧ RdAt w' b sv (i + 1) lf iv kv dv fv ∧ Only b w w') ∨
  (l.length ≤ i ∧ e = .returned (.tuple #[.int .i64 0, .bool false]) ∧ RdAt w' b sv i lf iv kv dv fv ∧ Only b w w')
def TextTold (b t c : Nat) (cs : Array Value) (T : TypeId) (w : World) (sv : Value) (l : List Nat) (i : Nat) (lf : Bool) (iv kv dv fv : Value) (e : Ending) (w' : World) : Prop :=
  ∃ v m i' ok, e = .returned (.bool ok) ∧ Txt w' b v m ∧ w'.heap[t]? = some (.cells (cs.setIfInBounds c v) T (0, 0)) ∧ RdAt w' b sv i' lf iv kv dv fv ∧ Only2 b t w w' ∧ i' ≤ l.length ∧
    ((ok = true ∧ pText (l.drop i) = some (m, l.drop i')) ∨ (ok = false ∧ pText (l.drop i) = none))
def NumTold (b t : Nat) (T : TypeId) (w : World) (sv : Value) (l : List Nat) (i : Nat) (lf : Bool) (iv kv dv fv : Value) (e : Ending) (w' : World) : Prop :=
  ∃ n i' ok, e = .returned (.bool ok) ∧ n < 18446744073709551616 ∧ w'.heap[t]? = some (.cells #[.int .u64 (n : Nat)] T (0, 0)) ∧ RdAt w' b sv i' lf iv kv dv fv ∧ Only2 b t w w' ∧ i' ≤ l.length ∧
    ((ok = true ∧ ∃ a, pTake 8 (l.drop i) = some (a, l.drop i') ∧ n = numOf a) ∨ (ok = false ∧ pTake 8 (l.drop i) = none))
section
variable (w0 : World) (b : Nat) (w : World) (sv : Value) (l : List Nat) (i : Nat) (lf : Bool) (iv kv dv fv : Value)
set_option maxRecDepth 100000 in
theorem next_no (h : RdAt w b sv i lf iv kv dv fv) (hsv : Bytes w0 sv l) (n : Nat) (hi : i ≤ l.length) (hn : n ≤ 4611686018427387904) (hlt : l.length < i + n) :
    Calls Tryz.prog 169 #[.pointer (some ⟨b, 0, none⟩), .int .i64 n] w (NextNo b w sv i lf iv kv dv fv) := by
  obtain ⟨p, cap, rfl, _⟩ := hsv.any
  have hm := hsv.short
  unfold maxLen at hm
  clear hsv
  have c0 := cells_of h 0
  have c1 := cells_of h 1
  simp only [List.getElem?_toArray, List.getElem?_cons_zero, List.getElem?_cons_succ] at c0 c1
  have H := Lib.hid h; clear h
  have b1 : (l.length : Int) - i < n := by omega
  clear hlt
  go_enter Tryz.func169, Tryz.ntmps169
  go_wp2
  go_region
  go_wp2
  go_ret2
  exact ⟨rfl, H.out, Only.drewN b w 1⟩
set_option maxRecDepth 100000 in
theorem next_yes (h : RdAt w b sv i lf iv kv dv fv) (hsv : Bytes w0 sv l) (n : Nat) (hlt : i + n ≤ l.length) :
    Calls Tryz.prog 169 #[.pointer (some ⟨b, 0, none⟩), .int .i64 n] w (NextYes w0 b w sv l i n lf iv kv dv fv) := by
  obtain ⟨p, cap, rfl, _⟩ := hsv.any
  have hm := hsv.short
  unfold maxLen at hm
  obtain ⟨u, c, hsl, hbq⟩ := piece_run hsv i n hlt
  have HBZ := Lib.hid hbq
  clear hsv hbq
  have c0 := cells_of h 0
  have c1 := cells_of h 1
  have f0 := free_of h
  simp only [List.getElem?_toArray, List.getElem?_cons_zero, List.getElem?_cons_succ] at c0 c1
  have hd : RdAt w.drew b (.slice p l.length cap) i lf iv kv dv fv := h
  have H2 := Lib.hid (hd.setAt (i + n))
  have H := Lib.hid h; clear h hd
  have b1 : ¬ (l.length : Int) - i < n := by omega
  clear hlt
  go_enter Tryz.func169, Tryz.ntmps169
  go_wp2
  go_region
  go_wp2
  go_region
  go_wp2
  go_ret2
  exact ⟨_, _, rfl, HBZ.out, H2.out, ((Only.drewN b w 1).trans (Only.set b 1 _ _)).trans (Only.drewN b _ 1)⟩
set_option maxRecDepth 100000 in
theorem size_any (h : RdAt w b sv i lf iv kv dv fv) (hsv : Bytes w0 sv l) (h0 : Below w0.heap.size w0 w) (hb : w0.heap.size ≤ b) (hi : i ≤ l.length) :
    Calls Tryz.prog 172 #[.pointer (some ⟨b, 0, none⟩)] w (SizeTold b w sv l i lf iv kv dv fv) := by
  by_cases h1 : i + 1 ≤ l.length
  · have HC := Lib.hid (next_yes w0 b w sv l i lf iv kv dv fv h hsv 1 h1)
    have hcl : atB l i < 256 := hsv.at_lt (by omega)
    unfold NextYes at HC
    rw [pc_one h1] at HC
    have H0 := Lib.hid h0; have HB := Lib.hid hb; have HL := Lib.hid h1; have HS := Lib.hid h.lt
    clear h hsv h0 hb hi h1
    generalize hya : atB l i = y at *
    have HYA := Lib.hid hya
    have hy : (y : Int) < 256 := by omega
    clear hya
    go_enter Tryz.func172, Tryz.ntmps172
    go_wp2_with fail
    refine HC.out.mono ?_
    rintro e w1 ⟨u, c, rfl, hbq, hr, ho⟩
    have hb1 : Below w0.heap.size w0 w1 := Below.only H0.out HB.out (Nat.le_of_lt (Nat.lt_of_le_of_lt HB.out HS.out)) ho
    obtain ⟨b1, o1, rfl, hcell⟩ := (hbq.below hb1).spot 0 (by simp)
    rw [show atB [y] 0 = y by simp [atB], Nat.add_zero] at hcell
    have HR := Lib.hid hr; have HO := Lib.hid ho; clear hr ho hbq hb1
    go_wp2
    go_ret2
    exact .inl ⟨HL.out, by rw [HYA.out]; rfl, HR.out, HO.out⟩
  · have HC := Lib.hid (next_no w0 b w sv l i lf iv kv dv fv h hsv 1 hi (by omega) (by omega))
    have HL : Hid (l.length ≤ i) := by unfold Hid; omega
    unfold NextNo at HC
    clear h hsv h0 hb hi h1
    go_enter Tryz.func172, Tryz.ntmps172
    go_wp2_with fail
    refine HC.out.mono ?_
    rintro e w1 ⟨rfl, hr, ho⟩
    have HR := Lib.hid hr; have HO := Lib.hid ho; clear hr ho
    go_wp2
    go_ret2
    exact .inr ⟨HL.out, rfl, HR.out, HO.out⟩
end
end Go.Proofs.YtlagllhhahomlaaGreat.Sl.Nd
/- Nodes in a program: texts and numbers, taken. -/
namespace Go.By
open Go Go.RowKit
theorem Below.only2 {B A t : Nat} {w0 w w' : World} (h : Below B w0 w) (hB : B ≤ A) (ht : B ≤ t) (hw : B ≤ w.heap.size) (h2 : Only2 A t w w') : Below B w0 w' :=
  ⟨h2.os.trans h.os, h2.tape.trans h.tape, h2.output.trans h.output, Nat.le_trans h.size h2.size, fun k hk => (h2.block k (by omega) (by omega) (by omega)).trans (h.block k hk)⟩
theorem set_same {cs : Array Value} {c : Nat} {v : Value} (h : cs[c]? = some v) : cs.setIfInBounds c v = cs := by
  apply Array.ext_getElem?
  intro j
  rw [Array.getElem?_setIfInBounds]
  split
  · rename_i hj
    subst hj
    rw [h]
    obtain ⟨hlt, _⟩ := Array.getElem?_eq_some_iff.1 h
    simp [hlt]
  · rfl
end Go.By
namespace Go.Proofs.YtlagllhhahomlaaGreat.Sl.Nd
open Go Go.RowKit Go.By
section
variable (w0 : World) (b t c : Nat) (cs : Array Value) (T : TypeId) (w : World) (sv : Value) (l : List Nat) (i : Nat) (lf : Bool) (iv kv dv fv : Value)
set_option maxRecDepth 100000 in
theorem text_any (h : RdAt w b sv i lf iv kv dv fv) (hsv : Bytes w0 sv l) (h0 : Below w0.heap.size w0 w) (hb : w0.heap.size ≤ b) (hi : i ≤ l.length) (ht : w.heap[t]? = some (.cells cs T (0, 0))) (hc : cs[c]? = some (.slice none 0 0)) (hbt : b < t) :
    Calls Tryz.prog 190 #[.pointer (some ⟨b, 0, none⟩), .pointer (some ⟨t, c, none⟩)] w (TextTold b t c cs T w sv l i lf iv kv dv fv) := by
  have HC := Lib.hid (size_any w0 b w sv l i lf iv kv dv fv h hsv h0 hb hi)
  have HSV := Lib.hid hsv; have H0 := Lib.hid h0; have HB := Lib.hid hb; have HI := Lib.hid hi; have HT := Lib.hid ht; have HCC := Lib.hid hc; have HBT := Lib.hid hbt; have HS := Lib.hid h.lt
  have hts : t < w.heap.size := (Array.getElem?_eq_some_iff.1 ht).1
  have HTS := Lib.hid hts
  clear h hsv h0 hb hi ht hc hbt hts
  go_enter Tryz.func190, Tryz.ntmps190
  go_wp2_with fail
  refine HC.out.mono ?_
  rintro e w1 (⟨hil, rfl, hr, ho⟩ | ⟨hil, rfl, hr, ho⟩)
  · have hcl : atB l i < 256 := HSV.out.at_lt hil
    have hb1 : Below w0.heap.size w0 w1 := Below.only H0.out HB.out (Nat.le_of_lt (Nat.lt_of_le_of_lt HB.out HS.out)) ho
    have ht1 : w1.heap[t]? = some (.cells cs T (0, 0)) := (ho.block t HTS.out (by have := HBT.out; omega)).trans HT.out
    by_cases hfit : i + 1 + atB l i ≤ l.length
    · have HN := Lib.hid (next_yes w0 b w1 sv l (i + 1) lf iv kv dv fv hr HSV.out (atB l i) hfit)
      have HP := Lib.hid (pText_at hfit)
      have hpl := pc_length hfit
      have HFI := Lib.hid hfit
      have HB1 := Lib.hid hb1; have HT1 := Lib.hid ht1; have HR := Lib.hid hr; have HO := Lib.hid ho
      unfold NextYes at HN
      generalize pc l (i + 1) (atB l i) = m at *
      generalize atB l i = y at *
      have hy : (y : Int) < 256 := by omega
      have HPL := Lib.hid hpl; have HY := Lib.hid hcl
      clear hb1 ht1 hfit hr ho hpl hcl hil HC
      go_wp2_with fail
      refine HN.out.mono ?_
      rintro e w2 ⟨u, cu, rfl, hbq, hr2, ho2⟩
      have hb2 : Below w0.heap.size w0 w2 := Below.only HB1.out HB.out (Nat.le_trans HB.out (Nat.le_of_lt HR.out.lt)) ho2
      have ht2 : w2.heap[t]? = some (.cells cs T (0, 0)) := (ho2.block t (Nat.lt_of_lt_of_le HTS.out HO.out.size) (by have := HBT.out; omega)).trans HT1.out
      have hm := hbq.below hb2
      have hbs : b ≤ w2.heap.size := Nat.le_of_lt hr2.lt
      obtain ⟨v3, w3, hrun, ho3, hg3⟩ := run_append_byt (P := Tryz.prog) 26 byT b (.slice none 0 0) 0 [] (World.ownsRow_nil _ _ _ _) (.slice u y cu) m hm (by have := HPL.out; have := HY.out; omega) hbs
      have hb3 : Below w2.heap.size w2 w3 := hg3.below (Below.refl _ _) (Nat.le_refl _) (by intro k hk; simp [Value.ownBlock] at hk)
      have ho3' : w3.ownsRow b 5 1 v3 m.length (cellsOf m) := by simpa using ho3
      have ht3 : w3.heap[t]? = some (.cells cs T (0, 0)) := (hb3.block t (Nat.lt_of_lt_of_le HTS.out (Nat.le_trans HO.out.size ho2.size))).trans ht2
      have hv3 : v3.ownBlock ≠ some t := by
        rcases hg3.new with hh | ⟨g, hh, hg⟩
        · rw [hh]; simp [Value.ownBlock]
        · rw [hh]; intro e
          have := Option.some.inj e
          have := HTS.out; have := HO.out.size; have := ho2.size
          omega
      have htx : Txt (w3.setCell ⟨t, c, none⟩ v3) b v3 m := ⟨owns_stay ho3' (fun k hk => heap_setCell_other w3 _ k _ (fun e => hv3 (by rw [hk, e]))), hm.small, hm.short⟩
      have hct := cells_of ht3 c
      rw [HCC.out] at hct
      have hft := free_of ht3 c
      have hr3 : RdAt (w3.setCell ⟨t, c, none⟩ v3) b sv (i + 1 + y) lf iv kv dv fv := (heap_setCell_other w3 ⟨t, c, none⟩ b v3 (by have := HBT.out; show b ≠ t; omega)).trans (hr2.below' hb3)
      have hon : Only2 b t w (w3.setCell ⟨t, c, none⟩ v3) := ((((HO.out.trans ho2).trans (Only.of_below hb3))).two t).trans (Only2.set b t c w3 v3)
      have htt : (w3.setCell ⟨t, c, none⟩ v3).heap[t]? = some (.cells (cs.setIfInBounds c v3) T (0, 0)) := set_heap ht3 c v3
      have HTX := Lib.hid htx; have HR3 := Lib.hid hr3; have HON := Lib.hid hon; have HTT := Lib.hid htt; have HRUN := Lib.hid hrun
      obtain ⟨pv, cv, rfl⟩ := shape_of ho3'
      clear hb2 ht2 hm hbs hrun ho3 hg3 hb3 ho3' ht3 hv3 htx hr3 hon htt hr2 ho2 hbq HN HT1 HR HO HB1
      go_wp2_with (at_builtin; refine Lib.wpList_append_run _ rfl (.const (.slice none 0 0)) (.tmp 22) 26 26 rfl _ _ rfl rfl _ w3 HRUN.out ?_)
      go_ret
      exact ⟨_, _, _, _, rfl, HTX.out, HTT.out, HR3.out, HON.out, HFI.out, .inl ⟨rfl, HP.out⟩⟩
    · have HN := Lib.hid (next_no w0 b w1 sv l (i + 1) lf iv kv dv fv hr HSV.out (atB l i) hil (by omega) (by omega))
      have HP := Lib.hid (pText_no hfit (by omega))
      have HT1 := Lib.hid ht1; have HO := Lib.hid ho; have HIL := Lib.hid hil
      unfold NextNo at HN
      generalize atB l i = y at *
      have hy : (y : Int) < 256 := by omega
      clear hb1 ht1 hfit hr ho hcl hil HC
      go_wp2_with fail
      refine HN.out.mono ?_
      rintro e w2 ⟨rfl, hr2, ho2⟩
      have ht2 : w2.heap[t]? = some (.cells cs T (0, 0)) := (ho2.block t (Nat.lt_of_lt_of_le HTS.out HO.out.size) (by have := HBT.out; omega)).trans HT1.out
      have hct := cells_of ht2 c
      rw [HCC.out] at hct
      have hft := free_of ht2 c
      have hr3 : RdAt (w2.setCell ⟨t, c, none⟩ (.slice none 0 0)) b sv (i + 1) lf iv kv dv fv := (heap_setCell_other w2 ⟨t, c, none⟩ b _ (by have := HBT.out; show b ≠ t; omega)).trans hr2
      have hon : Only2 b t w (w2.setCell ⟨t, c, none⟩ (.slice none 0 0)) := ((HO.out.trans ho2).two t).trans (Only2.set b t c w2 _)
      have htt : (w2.setCell ⟨t, c, none⟩ (.slice none 0 0)).heap[t]? = some (.cells (cs.setIfInBounds c (.slice none 0 0)) T (0, 0)) := set_heap ht2 c _
      have HR3 := Lib.hid hr3; have HON := Lib.hid hon; have HTT := Lib.hid htt
      clear ht2 hr3 hon htt hr2 ho2 HN HT1 HO
      go_wp2_with (at_builtin; refine Lib.wpList_append_run _ rfl (.const (.slice none 0 0)) (.tmp 22) 26 26 rfl _ _ rfl rfl (.slice none 0 0) w2 (by kernel_rfl) ?_)
      go_ret
      exact ⟨_, [], _, _, rfl, Txt.nil _ _, HTT.out, HR3.out, HON.out, HIL.out, .inr ⟨rfl, HP.out⟩⟩
  · have HP := Lib.hid (pText_no (l := l) (i := i) (by omega) HI.out)
    have HT1 : Hid (w1.heap[t]? = some (.cells (cs.setIfInBounds c (.slice none 0 0)) T (0, 0))) := by
      unfold Hid
      rw [set_same HCC.out]
      exact (ho.block t HTS.out (by have := HBT.out; omega)).trans HT.out
    have HR := Lib.hid hr; have HO := Lib.hid (ho.two t)
    clear hr ho hil HC
    go_wp2
    go_ret
    exact ⟨_, [], _, _, rfl, Txt.nil _ _, HT1.out, HR.out, HO.out, HI.out, .inr ⟨rfl, HP.out⟩⟩
def NumRel (b t : Nat) (T : TypeId) (w : World) (sv : Value) (i : Nat) (lf : Bool) (iv kv dv fv : Value) (m : List Nat) (n : Value) (wr : World) : Prop :=
  ∃ k : Nat, k ≤ m.length ∧ n = .int .i64 k ∧ wr.heap[t]? = some (.cells #[.int .u64 (numOf (m.take k) : Nat)] T (0, 0)) ∧ RdAt wr b sv i lf iv kv dv fv ∧ Only2 b t w wr
set_option maxRecDepth 100000 in
set_option maxHeartbeats 1000000 in
theorem number_any (h : RdAt w b sv i lf iv kv dv fv) (hsv : Bytes w0 sv l) (h0 : Below w0.heap.size w0 w) (hb : w0.heap.size ≤ b) (hi : i ≤ l.length) (ht : w.heap[t]? = some (.cells #[.int .u64 0] T (0, 0))) (hbt : b < t) :
    Calls Tryz.prog 191 #[.pointer (some ⟨b, 0, none⟩), .pointer (some ⟨t, 0, none⟩)] w (NumTold b t T w sv l i lf iv kv dv fv) := by
  have HSV := Lib.hid hsv; have H0 := Lib.hid h0; have HB := Lib.hid hb; have HI := Lib.hid hi; have HT := Lib.hid ht; have HBT := Lib.hid hbt; have HS := Lib.hid h.lt
  have hts : t < w.heap.size := (Array.getElem?_eq_some_iff.1 ht).1
  have HTS := Lib.hid hts
  by_cases hfit : i + 8 ≤ l.length
  · have HC := Lib.hid (next_yes w0 b w sv l i lf iv kv dv fv h hsv 8 hfit)
    have HP := Lib.hid (pTake_at hfit)
    have hpl := pc_length hfit
    have HFI := Lib.hid hfit
    unfold NextYes at HC
    generalize pc l i 8 = m at *
    have HPL := Lib.hid hpl
    clear h hsv h0 hb hi ht hbt hts hfit hpl
    go_enter Tryz.func191, Tryz.ntmps191
    go_wp2_with fail
    refine HC.out.mono ?_
    rintro e w1 ⟨u, cu, rfl, hbq, hr, ho⟩
    have HV := Lib.hid hbq
    have hb1 : Below w0.heap.size w0 w1 := Below.only H0.out HB.out (Nat.le_of_lt (Nat.lt_of_le_of_lt HB.out HS.out)) ho
    have ht1 : w1.heap[t]? = some (.cells #[.int .u64 0] T (0, 0)) := (ho.block t HTS.out (by have := HBT.out; omega)).trans HT.out
    have hct := cells_of ht1 0
    simp only [List.getElem?_toArray, List.getElem?_cons_zero] at hct
    have hft := free_of ht1 0
    have hrel0 : NumRel b t T w sv (i + 8) lf iv kv dv fv m (.int .i64 (0 : Nat)) (w1.setCell ⟨t, 0, none⟩ (.int .u64 0)) :=
      ⟨0, Nat.zero_le _, rfl, set_heap ht1 0 _, (heap_setCell_other w1 ⟨t, 0, none⟩ b _ (by have := HBT.out; show b ≠ t; omega)).trans hr, (ho.two t).trans (Only2.set b t 0 w1 _)⟩
    have HREL := Lib.hid hrel0
    clear hbq hr ho hb1 ht1 hrel0 HC
    go_wp2
    go_loopw [18] (fun n W => NumRel b t T w sv (i + 8) lf iv kv dv fv m n W) (fun n _ => 8 - (intOf n).toNat)
    case atStart => exact HREL.out
    case round =>
      clear HREL
      obtain ⟨k, hk, rfl, htr, hrr, hor⟩ := hrel
      by_cases hlt : k < 8
      · have hlm : k < m.length := by rw [HPL.out]; exact hlt
        have hbr : Below w0.heap.size w0 wr := Below.only2 H0.out HB.out (by have := HB.out; have := HBT.out; omega) (Nat.le_of_lt (Nat.lt_of_le_of_lt HB.out HS.out)) hor
        obtain ⟨b1, o1, rfl, hcell⟩ := (HV.out.below hbr).spot k hlm
        have hn : numOf (m.take k) < 72057594037927936 := by
          have h1 := numOf_lt (m.take k) (fun c hc => HV.out.small c (List.mem_of_mem_take hc))
          have h2 : 256 ^ (m.take k).length ≤ 256 ^ 7 := Nat.pow_le_pow_right (by omega) (by rw [List.length_take]; omega)
          exact Nat.lt_of_lt_of_le h1 (Nat.le_trans h2 (by decide))
        have hcl : atB m k < 256 := HV.out.at_lt hlm
        have hs : numOf (m.take (k + 1)) = numOf (m.take k) * 256 + atB m k := by
          rw [List.take_succ_eq_append_getElem hlm, numOf_snoc, atB_of hlm]
        have e1 := or_byte64 (numOf (m.take k)) (atB m k) hn hcl
        have e2 : IntKind.u64.wrap ((numOf (m.take k) : Int) * 256) = ((numOf (m.take k) * 256 : Nat) : Int) := by rw [IntKind.wrap_u64]; omega
        have hdt := cells_of htr 0
        simp only [List.getElem?_toArray, List.getElem?_cons_zero] at hdt
        have hft2 := free_of htr 0
        have hnx : NumRel b t T w sv (i + 8) lf iv kv dv fv m (.int .i64 (k + 1 : Nat)) (wr.setCell ⟨t, 0, none⟩ (.int .u64 (numOf (m.take k) * 256 + atB m k : Nat))) :=
          ⟨k + 1, hlm, rfl, by rw [hs]; exact set_heap htr 0 _, (heap_setCell_other wr ⟨t, 0, none⟩ b _ (by have := HBT.out; show b ≠ t; omega)).trans hrr, hor.trans (Only2.set b t 0 wr _)⟩
        have HNX := Lib.hid hnx
        clear hs hlm hbr htr hrr hor hnx
        generalize numOf (m.take k) * 256 = z at *
        generalize numOf (m.take k) = x at *
        generalize atB m k = y at *
        generalize hzy : z + y = zy at *
        clear hn hzy
        go_wp2
        go_roundw
        case rel => exact HNX.out
        case measure => simp [intOf]; omega
      · have hk8 : k = 8 := by have := HPL.out; omega
        subst hk8
        rw [List.take_of_length_le (by rw [HPL.out]; omega)] at htr
        have HTR := Lib.hid htr; have HRR := Lib.hid hrr; have HOR := Lib.hid hor
        have HNL : Hid (numOf m < 18446744073709551616) := by
          have h1 := numOf_lt m (fun c hc => HV.out.small c hc)
          rw [HPL.out] at h1
          exact h1
        clear htr hrr hor
        go_wp2
        go_ret
        exact ⟨_, _, _, rfl, HNL.out, HTR.out, HRR.out, HOR.out, HFI.out, .inl ⟨rfl, _, HP.out, rfl⟩⟩
  · have HC := Lib.hid (next_no w0 b w sv l i lf iv kv dv fv h hsv 8 hi (by omega) (by omega))
    have HP := Lib.hid (pTake_no hfit hi)
    unfold NextNo at HC
    clear h hsv h0 hb hi ht hbt hts hfit
    go_enter Tryz.func191, Tryz.ntmps191
    go_wp2_with fail
    refine HC.out.mono ?_
    rintro e w1 ⟨rfl, hr, ho⟩
    have ht1 : w1.heap[t]? = some (.cells #[.int .u64 0] T (0, 0)) := (ho.block t HTS.out (by have := HBT.out; omega)).trans HT.out
    have hct := cells_of ht1 0
    simp only [List.getElem?_toArray, List.getElem?_cons_zero] at hct
    have hft := free_of ht1 0
    have HTT : Hid ((w1.setCell ⟨t, 0, none⟩ (.int .u64 0)).heap[t]? = some (.cells #[.int .u64 (0 : Nat)] T (0, 0))) := set_heap ht1 0 _
    have HR : Hid (RdAt (w1.setCell ⟨t, 0, none⟩ (.int .u64 0)) b sv i lf iv kv dv fv) := (heap_setCell_other w1 ⟨t, 0, none⟩ b _ (by have := HBT.out; show b ≠ t; omega)).trans hr
    have HO := Lib.hid ((ho.two t).trans (Only2.set b t 0 w1 (.int .u64 0)))
    clear ht1 hr ho HC
    go_wp2
    go_loopw [18] (fun n W => n = .int .i64 0 ∧ W = w1.setCell ⟨t, 0, none⟩ (.int .u64 0)) (fun _ _ => 0)
    case atStart => exact ⟨rfl, rfl⟩
    case round =>
      obtain ⟨rfl, rfl⟩ := hrel
      go_wp2
      go_ret
      exact ⟨_, _, _, rfl, by decide, HTT.out, HR.out, HO.out, HI.out, .inr ⟨rfl, HP.out⟩⟩
end
end Go.Proofs.YtlagllhhahomlaaGreat.Sl.Nd
/- Nodes in a program: items, taken. -/
namespace Go.By
open Go Go.RowKit
theorem step_append_run {P : Program} {w : World} {ops : Array Oper} {o : Oper} {a : Act} {K : Act → World → Prop} {Q : Exit → Act → World → Prop} {E : Prop} (hgd : o.guard = none) (s x : Operand) (t t' : TypeId)
    (ho : o.op = .call { callee := .builtin .append, args := #[s, x], argTypes := #[t, t'] }) (v xv : Value) (hs : a.eval s = v) (hx : a.eval x = xv) (v' : Value) (w' : World) (hrun : (Builtin.append_ #[t, t'] o.type #[v, xv]).run P w = .ok v' w')
    (h : K (a.put o.dst v') w') :
    if Region.wanted o (yielded ops a.tmps) = true then Oper.wp P o a w K Q else E := by
  have hw : Region.wanted o (yielded ops a.tmps) = true := by simp [Region.wanted, hgd]
  rw [if_pos hw]
  unfold Oper.wp execOp
  simp only [ho, resolve, invoke, builtin, Sem.run_bind, Sem.run_pure, Result.andThen_ok, List.map_toArray, List.map_cons, List.map_nil, hs, hx, hrun]
  exact h
end Go.By
namespace Go.Proofs.YtlagllhhahomlaaGreat.Sl.Nd
open Go Go.RowKit Go.By
def LfSt (w0 : World) (b : Nat) (w : World) (sv : Value) (i : Nat) (fv : Value) (its : List NIt) : Prop :=
  ∃ iv, RdAt w b sv i true iv (.slice none 0 0) (.slice none 0 0) fv ∧ ItRow w b iv its ∧ Below w0.heap.size w0 w
def ItTold (w0 : World) (b : Nat) (sv : Value) (l : List Nat) (i : Nat) (fv : Value) (its : List NIt) (e : Ending) (w' : World) : Prop :=
  ∃ it i' ok, e = .returned (.bool ok) ∧ LfSt w0 b w' sv i' fv (its ++ [it]) ∧ i' ≤ l.length ∧ ((ok = true ∧ pIt (l.drop i) = some (it, l.drop i')) ∨ (ok = false ∧ pIt (l.drop i) = none))
theorem Txt.only2 {w w' : World} {B b t : Nat} {v : Value} {l : List Nat} {c c' : Array Value} {fr fr' : Nat × Nat} {T : TypeId} (h : Txt w B v l) (hb : w.heap[b]? = some (.cells c 226 fr)) (ht : w.heap[t]? = some (.cells c' T fr')) (hT : 5 ≠ T) (ho : Only2 b t w w') : Txt w' B v l :=
  ⟨owns_stay h.1 (fun k hk => ho.block k (h.1.lt k hk).2 (fun e => owns_ne h.1 hb ty_ne.1 (by rw [hk, e])) (fun e => owns_ne h.1 ht hT (by rw [hk, e]))), h.2⟩
theorem item_push {w0 w : World} {b i : Nat} {sv iv a c fv : Value} {its : List NIt} {it : NIt} (hr : RdAt w b sv i true iv (.slice none 0 0) (.slice none 0 0) fv) (hi : ItRow w b iv its) (h0 : Below w0.heap.size w0 w) (hb : w0.heap.size ≤ b) (hn : its.length ≤ 1000000) (ha : Txt w b a it.k) (hc : Txt w b c it.v) :
    ∃ p' n' c' w', (Builtin.append_ #[35, 35] 35 #[iv, .slice (some ⟨w.heap.size, 0, none⟩) 1 1]).run Tryz.prog (w.drew.alloc (.cells #[a, c] 49)) = .ok (.slice p' n' c') w' ∧ RdAt w' b sv i true iv (.slice none 0 0) (.slice none 0 0) fv ∧ LfSt w0 b (w'.setCell ⟨b, 3, none⟩ (.slice p' n' c')) sv i fv (its ++ [it]) := by
  have hbz : Below w.heap.size w w.drew := (Below.refl _ _).drew
  have hi' : ItRow w.drew b iv its := hi.below' hbz
  have hrd : RdAt w.drew b sv i true iv (.slice none 0 0) (.slice none 0 0) fv := hr
  obtain ⟨v', w', hrun, hrow, hg⟩ := hi'.push hn (show b ≤ w.drew.heap.size from Nat.le_of_lt hr.lt) (ha.below' hbz) (hc.below' hbz)
  obtain ⟨cs, _, ho, _⟩ := hi'
  have hne : iv.ownBlock ≠ some b := owns_ne ho hrd ty_ne.2.1
  have hr' : RdAt w' b sv i true iv (.slice none 0 0) (.slice none 0 0) fv := (hg.block hrd.lt hne).trans hrd
  have hbl : Below w0.heap.size w0 w' := hg.below (h0.trans (hbz.mono h0.size)) (Nat.le_trans hb (Nat.le_of_lt hrd.lt)) (fun k hk => Nat.le_trans hb (ho.lt k hk).1)
  obtain ⟨p', c', rfl, -⟩ := hrow.at_
  exact ⟨_, _, _, w', hrun, hr', _, hr'.setIv _, hrow.only hr' (Only.set b 3 w' _), hbl.setCell hb _⟩
set_option maxRecDepth 100000 in
set_option maxHeartbeats 2000000 in
theorem takeItem_any (w0 : World) (b : Nat) (w : World) (sv : Value) (l : List Nat) (i : Nat) (fv : Value) (its : List NIt) (h : LfSt w0 b w sv i fv its) (hsv : Bytes w0 sv l) (hb : w0.heap.size ≤ b) (hi : i ≤ l.length) (hn : its.length ≤ 1000) :
    Calls Tryz.prog 170 #[.pointer (some ⟨b, 0, none⟩)] w (ItTold w0 b sv l i fv its) := by
  obtain ⟨iv, hr, hrow, h0⟩ := h
  have hba : Below w.heap.size w (w.alloc (.cells #[.slice none 0 0, .slice none 0 0] 49)) := (Below.refl _ _).alloc (Nat.le_refl _) _
  have hr0 := hr.below' hba
  have h00 := h0.trans (hba.mono h0.size)
  have hT1 := text_any w0 b w.heap.size 0 #[.slice none 0 0, .slice none 0 0] 49 _ sv l i true iv (.slice none 0 0) (.slice none 0 0) fv hr0 hsv h00 hb hi (heap_alloc_new w _) rfl hr.lt
  have HT1 := Lib.hid hT1; have HROW := Lib.hid hrow; have H0 := Lib.hid h0; have HB := Lib.hid hb; have HSV := Lib.hid hsv; have HR := Lib.hid hr; have HN := Lib.hid hn
  clear hba hr0 h00 hT1 hr hrow h0 hsv hb hi hn
  go_enter Tryz.func170, Tryz.ntmps170
  go_wp2_with fail
  refine HT1.out.mono ?_
  rintro e w1 ⟨v1, m1, i1, ok1, rfl, ht1, hc1, hr1, ho1, hi1, htold1⟩
  have hall1 : Only b w w1 := (Only.alloc b w _).then2 ho1 (Nat.le_refl _)
  have hrow1 := HROW.out.only HR.out hall1
  have h01 : Below w0.heap.size w0 w1 := Below.only H0.out HB.out (Nat.le_of_lt (Nat.lt_of_le_of_lt HB.out HR.out.lt)) hall1
  clear HT1
  rcases htold1 with ⟨rfl, hp1⟩ | ⟨rfl, hp1⟩
  · have hT2 := text_any w0 b w.heap.size 1 _ 49 w1 sv l i1 true iv (.slice none 0 0) (.slice none 0 0) fv hr1 HSV.out h01 HB.out hi1 hc1 rfl HR.out.lt
    have HT2 := Lib.hid hT2; have HROW1 := Lib.hid hrow1; have H01 := Lib.hid h01; have HC1 := Lib.hid hc1; have HR1 := Lib.hid hr1; have HP1 := Lib.hid hp1; have HTX1 := Lib.hid ht1; have HA1 := Lib.hid hall1
    clear hT2 hrow1 h01 hc1 hr1 hp1 ht1 hall1 ho1 hi1
    go_wp2_with fail
    refine HT2.out.mono ?_
    rintro e w2 ⟨v2, m2, i2, ok2, rfl, ht2, hc2, hr2, ho2, hi2, htold2⟩
    have ht12 : Txt w2 b v1 m1 := HTX1.out.only2 HR1.out HC1.out ty_ne.2.2.2.2.1 ho2
    have hall2 : Only b w w2 := HA1.out.then2 ho2 (Nat.le_refl _)
    have hrow2 := HROW.out.only HR.out hall2
    have h02 : Below w0.heap.size w0 w2 := Below.only H0.out HB.out (Nat.le_of_lt (Nat.lt_of_le_of_lt HB.out HR.out.lt)) hall2
    have htold : (ok2 = true ∧ pIt (l.drop i) = some (⟨m1, m2⟩, l.drop i2)) ∨ (ok2 = false ∧ pIt (l.drop i) = none) := by
      unfold pIt
      rw [HP1.out]
      dsimp only
      rcases htold2 with ⟨h1, h2⟩ | ⟨h1, h2⟩
      · rw [h2]; exact .inl ⟨h1, rfl⟩
      · rw [h2]; exact .inr ⟨h1, rfl⟩
    clear HT2 HROW1 H01 HC1 HR1 HTX1 HA1 htold2
    obtain ⟨p3, n3, c3, w3, hrun, hr3, hst⟩ := item_push (it := ⟨m1, m2⟩) hr2 hrow2 h02 HB.out (by have := HN.out; omega) ht12 ht2
    have HTOLD : Hid ((ok2 = true ∧ pIt (l.drop i) = some (⟨m1, m2⟩, l.drop i2)) ∨ (ok2 = false ∧ pIt (l.drop i) = none)) := htold
    have hv0 := cells_of hr2 3
    have e0 := cells_of hc2 0
    have e1 := cells_of hc2 1
    have g3 := cells_of hr3 3
    have gf := free_of hr3 3
    simp only [List.getElem?_toArray, List.getElem?_cons_zero, List.getElem?_cons_succ, List.setIfInBounds_toArray, List.set_cons_zero, List.set_cons_succ] at hv0 e0 e1 g3
    obtain ⟨pi, ci, rfl, -⟩ := hrow2.at_
    obtain ⟨pa, ca, rfl, -⟩ := ht12.bytes.any
    obtain ⟨pb, cb, rfl, -⟩ := ht2.bytes.any
    have hv1 : (w2.alloc (.cells #[.slice pa m1.length ca, .slice pb m2.length cb] 49)).cell? ⟨b, 3, none⟩ = some (.slice pi its.length ci) := (World.cell?_alloc_lt _ _ _ hr2.lt).trans hv0
    have HRUN := Lib.hid hrun; have HST := Lib.hid hst; have HI := Lib.hid hi2
    generalize its.length = NL at *
    clear ht12 ht2 hc2 hr2 ho2 hi2 hall2 hrow2 h02 htold hrun hst hr3
    go_wp2
    go_region_law ((refine step_append_run rfl (.tmp 18) (.tmp 20) 35 35 rfl (.slice pi NL ci) (.slice (some ⟨w2.heap.size, 0, none⟩) 1 1) rfl rfl (.slice p3 n3 c3) w3 HRUN.out ?_))
    all_goals
      go_wp2
      go_ret
      exact ⟨_, _, _, rfl, HST.out, HI.out, HTOLD.out⟩
  · have htold : pIt (l.drop i) = none := by
      unfold pIt
      rw [hp1]
    have hnil := Txt.nil w1 b
    obtain ⟨p3, n3, c3, w3, hrun, hr3, hst⟩ := item_push (it := ⟨m1, []⟩) hr1 hrow1 h01 HB.out (by have := HN.out; omega) ht1 hnil
    have HTOLD : Hid (pIt (l.drop i) = none) := htold
    have hv0 := cells_of hr1 3
    have e0 := cells_of hc1 0
    have e1 := cells_of hc1 1
    have g3 := cells_of hr3 3
    have gf := free_of hr3 3
    simp only [List.getElem?_toArray, List.getElem?_cons_zero, List.getElem?_cons_succ, List.setIfInBounds_toArray, List.set_cons_zero] at hv0 e0 e1 g3
    obtain ⟨pi, ci, rfl, -⟩ := hrow1.at_
    obtain ⟨pa, ca, rfl, -⟩ := ht1.bytes.any
    have hv1 : (w1.alloc (.cells #[.slice pa m1.length ca, .slice none 0 0] 49)).cell? ⟨b, 3, none⟩ = some (.slice pi its.length ci) := (World.cell?_alloc_lt _ _ _ hr1.lt).trans hv0
    have HRUN := Lib.hid hrun; have HST := Lib.hid hst; have HI := Lib.hid hi1
    generalize its.length = NL at *
    clear ht1 hc1 hr1 ho1 hi1 hp1 hall1 hrow1 h01 htold hrun hst hr3
    go_wp2
    go_region_law ((refine step_append_run rfl (.tmp 18) (.tmp 20) 35 35 rfl (.slice pi NL ci) (.slice (some ⟨w1.heap.size, 0, none⟩) 1 1) rfl rfl (.slice p3 n3 c3) w3 HRUN.out ?_))
    all_goals
      go_wp2
      go_ret
      exact ⟨_, _, _, rfl, HST.out, HI.out, .inr ⟨rfl, HTOLD.out⟩⟩
end Go.Proofs.YtlagllhhahomlaaGreat.Sl.Nd
/- Nodes in a program: trees, taken. -/
namespace Go.Proofs.YtlagllhhahomlaaGreat.Sl.Nd
open Go Go.RowKit Go.By
theorem ty_u64 : 5 ≠ 23 ∧ 26 ≠ 23 ∧ 25 ≠ 23 ∧ 226 ≠ 23 := by decide
def InSt (w0 : World) (b : Nat) (w : World) (sv : Value) (i : Nat) (fv : Value) (xs : List (List Nat × NKd)) : Prop :=
  ∃ kv dv, RdAt w b sv i false (.slice none 0 0) kv dv fv ∧ KyRow w b kv (xs.map (·.1)) ∧ KdRow w b dv (xs.map (·.2)) ∧ Below w0.heap.size w0 w
def KdTold (w0 : World) (b : Nat) (sv : Value) (l : List Nat) (i : Nat) (fv : Value) (xs : List (List Nat × NKd)) (e : Ending) (w' : World) : Prop :=
  ∃ x i' ok, e = .returned (.bool ok) ∧ InSt w0 b w' sv i' fv (xs ++ [x]) ∧ i' ≤ l.length ∧ ((ok = true ∧ pKd (l.drop i) = some (x, l.drop i')) ∨ (ok = false ∧ pKd (l.drop i) = none))
theorem share {T G : Prop} (k : T → G) (p : T) : G := k p
theorem set_ty {w : World} {b t j : Nat} {v : Value} {c c' : Array Value} {T T' : TypeId} {fr fr' : Nat × Nat} (hb : w.heap[b]? = some (.cells c T fr)) (ht : w.heap[t]? = some (.cells c' T' fr')) (hne : T ≠ T') : (w.setCell ⟨b, j, none⟩ v).heap[t]? = some (.cells c' T' fr') := by
  refine (heap_setCell_other w ⟨b, j, none⟩ t v (fun e => ?_)).trans ht
  subst e
  rw [ht] at hb
  simp only [Option.some.injEq, Obj.cells.injEq] at hb
  exact hne hb.2.1.symm
theorem key_push {w0 w : World} {b i : Nat} {sv kv dv a fv : Value} {ks : List (List Nat)} {k : List Nat} {kids : List NKd} (hr : RdAt w b sv i false (.slice none 0 0) kv dv fv) (hi : KyRow w b kv ks) (hd : KdRow w b dv kids) (h0 : Below w0.heap.size w0 w) (hb : w0.heap.size ≤ b) (hn : ks.length ≤ 1000000) (ha : Txt w b a k) :
    ∃ p' n' c' w', (Builtin.append_ #[36, 36] 36 #[kv, .slice (some ⟨w.heap.size, 0, none⟩) 1 1]).run Tryz.prog (w.drew.alloc (.cells #[a] 26)) = .ok (.slice p' n' c') w' ∧ RdAt w' b sv i false (.slice none 0 0) kv dv fv ∧
      RdAt (w'.setCell ⟨b, 4, none⟩ (.slice p' n' c')) b sv i false (.slice none 0 0) (.slice p' n' c') dv fv ∧ KyRow (w'.setCell ⟨b, 4, none⟩ (.slice p' n' c')) b (.slice p' n' c') (ks ++ [k]) ∧ KdRow (w'.setCell ⟨b, 4, none⟩ (.slice p' n' c')) b dv kids ∧ Below w0.heap.size w0 (w'.setCell ⟨b, 4, none⟩ (.slice p' n' c')) ∧
      ∀ (t : Nat) (c : Array Value), w.heap[t]? = some (.cells c 23 (0, 0)) → (w'.setCell ⟨b, 4, none⟩ (.slice p' n' c')).heap[t]? = some (.cells c 23 (0, 0)) := by
  have hbz : Below w.heap.size w w.drew := (Below.refl _ _).drew
  have hi' : KyRow w.drew b kv ks := hi.below' hbz
  have hd' : KdRow w.drew b dv kids := hd.below' hbz
  have hrd : RdAt w.drew b sv i false (.slice none 0 0) kv dv fv := hr
  obtain ⟨v', w', hrun, hrow, hg⟩ := hi'.push hn (show b ≤ w.drew.heap.size from Nat.le_of_lt hr.lt) (ha.below' hbz)
  obtain ⟨cs, _, ho, _⟩ := hi'
  have hne : kv.ownBlock ≠ some b := owns_ne ho hrd ty_ne.2.2.1
  have hr' : RdAt w' b sv i false (.slice none 0 0) kv dv fv := (hg.block hrd.lt hne).trans hrd
  have hbl : Below w0.heap.size w0 w' := hg.below (h0.trans (hbz.mono h0.size)) (Nat.le_trans hb (Nat.le_of_lt hrd.lt)) (fun k hk => Nat.le_trans hb (ho.lt k hk).1)
  have hdd : KdRow w' b dv kids := ⟨owns_grows hd'.1 ho (Ne.symm ty_ne.2.2.2.2.2.2.2) hg, hd'.2⟩
  obtain ⟨p', c', rfl, -⟩ := hrow.at_
  refine ⟨_, _, _, w', hrun, hr', hr'.setKv _, hrow.only hr' (Only.set b 4 w' _), hdd.only hr' (Only.set b 4 w' _), hbl.setCell hb _, fun t c ht => ?_⟩
  have ht' : w'.heap[t]? = some (.cells c 23 (0, 0)) := (hg.block (show t < w.drew.heap.size from (Array.getElem?_eq_some_iff.1 ht).1) (owns_ne ho (show w.drew.heap[t]? = _ from ht) ty_u64.2.1)).trans ht
  exact set_ty hr' ht' ty_u64.2.2.2
theorem kid_push {w0 w : World} {b i : Nat} {sv kv dv fv : Value} {ks : List (List Nat)} {kids : List NKd} {d : NKd} (hr : RdAt w b sv i false (.slice none 0 0) kv dv fv) (hi : KyRow w b kv ks) (hd : KdRow w b dv kids) (h0 : Below w0.heap.size w0 w) (hb : w0.heap.size ≤ b) (hn : kids.length ≤ 1000000) (hq : d.off ≤ 9223372036854775807 ∧ d.ct < 18446744073709551616) :
    ∃ p' n' c' w', (Builtin.append_ #[34, 34] 34 #[dv, .slice (some ⟨w.heap.size, 0, none⟩) 1 1]).run Tryz.prog (w.drew.alloc (.cells #[.int .i64 d.off, .int .u64 (d.ct : Nat)] 25)) = .ok (.slice p' n' c') w' ∧ RdAt w' b sv i false (.slice none 0 0) kv dv fv ∧
      RdAt (w'.setCell ⟨b, 5, none⟩ (.slice p' n' c')) b sv i false (.slice none 0 0) kv (.slice p' n' c') fv ∧ KyRow (w'.setCell ⟨b, 5, none⟩ (.slice p' n' c')) b kv ks ∧ KdRow (w'.setCell ⟨b, 5, none⟩ (.slice p' n' c')) b (.slice p' n' c') (kids ++ [d]) ∧ Below w0.heap.size w0 (w'.setCell ⟨b, 5, none⟩ (.slice p' n' c')) := by
  have hbz : Below w.heap.size w w.drew := (Below.refl _ _).drew
  have hi' : KyRow w.drew b kv ks := hi.below' hbz
  have hd' : KdRow w.drew b dv kids := hd.below' hbz
  have hrd : RdAt w.drew b sv i false (.slice none 0 0) kv dv fv := hr
  obtain ⟨v', w', hrun, hrow, hg⟩ := hd'.push hn (show b ≤ w.drew.heap.size from Nat.le_of_lt hr.lt) hq
  have ho := hd'.1
  have hne : dv.ownBlock ≠ some b := owns_ne ho hrd ty_ne.2.2.2.1
  have hr' : RdAt w' b sv i false (.slice none 0 0) kv dv fv := (hg.block hrd.lt hne).trans hrd
  have hbl : Below w0.heap.size w0 w' := hg.below (h0.trans (hbz.mono h0.size)) (Nat.le_trans hb (Nat.le_of_lt hrd.lt)) (fun k hk => Nat.le_trans hb (ho.lt k hk).1)
  have hkk : KyRow w' b kv ks := by
    obtain ⟨cs, h1, h2, h3⟩ := hi'
    exact ⟨cs, h1, owns_grows h2 ho ty_ne.2.2.2.2.2.2.2 hg, fun j hj hj' => ⟨owns_grows (h3 j hj hj').1 ho ty_ne.2.2.2.2.2.2.1 hg, (h3 j hj hj').2⟩⟩
  obtain ⟨p', c', rfl, -⟩ := hrow.at_
  exact ⟨_, _, _, w', hrun, hr', hr'.setDv _, hkk.only hr' (Only.set b 5 w' _), hrow.only hr' (Only.set b 5 w' _), hbl.setCell hb _⟩
theorem kd_ok {l : List Nat} {i i1 i2 i3 : Nat} {k a c : List Nat} (h1 : pText (l.drop i) = some (k, l.drop i1)) (h2 : pTake 8 (l.drop i1) = some (a, l.drop i2)) (h3 : pTake 8 (l.drop i2) = some (c, l.drop i3)) : pKd (l.drop i) = some ((k, ⟨RowKit.wrap64 (numOf a : Nat), numOf c⟩), l.drop i3) := by
  unfold pKd
  rw [h1]; dsimp only
  rw [h2]; dsimp only
  rw [h3]
theorem kd_no1 {l : List Nat} {i : Nat} (h1 : pText (l.drop i) = none) : pKd (l.drop i) = none := by
  unfold pKd
  rw [h1]
theorem kd_no2 {l : List Nat} {i i1 : Nat} {k : List Nat} (h1 : pText (l.drop i) = some (k, l.drop i1)) (h2 : pTake 8 (l.drop i1) = none) : pKd (l.drop i) = none := by
  unfold pKd
  rw [h1]; dsimp only
  rw [h2]
theorem kd_no3 {l : List Nat} {i i1 i2 : Nat} {k a : List Nat} (h1 : pText (l.drop i) = some (k, l.drop i1)) (h2 : pTake 8 (l.drop i1) = some (a, l.drop i2)) (h3 : pTake 8 (l.drop i2) = none) : pKd (l.drop i) = none := by
  unfold pKd
  rw [h1]; dsimp only
  rw [h2]; dsimp only
  rw [h3]
set_option maxRecDepth 100000 in
set_option maxHeartbeats 1000000 in
theorem takeKid_any (w0 : World) (b : Nat) (w : World) (sv : Value) (l : List Nat) (i : Nat) (fv : Value) (xs : List (List Nat × NKd)) (h : InSt w0 b w sv i fv xs) (hsv : Bytes w0 sv l) (hb : w0.heap.size ≤ b) (hi : i ≤ l.length) (hn : xs.length ≤ 1000) :
    Calls Tryz.prog 171 #[.pointer (some ⟨b, 0, none⟩)] w (KdTold w0 b sv l i fv xs) := by
  obtain ⟨kv, dv, hr, hky, hkd, h0⟩ := h
  obtain ⟨W, hW⟩ : ∃ W, W = ((w.alloc (.cells #[.slice none 0 0] 26)).alloc (.cells #[.int .u64 0] 23)).alloc (.cells #[.int .u64 0] 23) := ⟨_, rfl⟩
  have hba : Below w.heap.size w W := by rw [hW]; exact (((Below.refl _ _).alloc (Nat.le_refl _) _).alloc (by simp) _).alloc (by simp; omega) _
  have a1 : W.heap[w.heap.size]? = some (.cells #[.slice none 0 0] 26 (0, 0)) := by rw [hW]; exact (Below.heap_alloc _ _ _ (by simp; omega)).trans ((Below.heap_alloc _ _ _ (by simp)).trans (heap_alloc_new w _))
  have a2 : W.heap[w.heap.size + 1]? = some (.cells #[.int .u64 0] 23 (0, 0)) := by rw [hW]; exact (Below.heap_alloc _ _ _ (by simp)).trans (by simpa using heap_alloc_new (w.alloc (.cells #[.slice none 0 0] 26)) (.cells #[.int .u64 0] 23))
  have a3 : W.heap[w.heap.size + 2]? = some (.cells #[.int .u64 0] 23 (0, 0)) := by rw [hW]; simpa using heap_alloc_new ((w.alloc (.cells #[.slice none 0 0] 26)).alloc (.cells #[.int .u64 0] 23)) (.cells #[.int .u64 0] 23)
  have hzw : W.heap.size = w.heap.size + 3 := by rw [hW]; simp
  have hlt := hr.lt
  have hr0 := hr.below' hba
  have h00 := h0.trans (hba.mono h0.size)
  have hT1 := text_any w0 b w.heap.size 0 _ 26 W sv l i false (.slice none 0 0) kv dv fv hr0 hsv h00 hb hi a1 rfl hlt
  have HT1 := Lib.hid hT1; have HKY := Lib.hid hky; have HKD := Lib.hid hkd; have H0 := Lib.hid h0; have HB := Lib.hid hb; have HSV := Lib.hid hsv; have HR := Lib.hid hr; have HN := Lib.hid hn; have HA2 := Lib.hid a2; have HA3 := Lib.hid a3; have HW := Lib.hid hW; have HBA := Lib.hid hba; have HLT := Lib.hid hlt; have HZW := Lib.hid hzw
  clear hba hr0 h00 hT1 hr hky hkd h0 hsv hb hi hn a1 a2 a3 hW hlt hzw
  go_enter Tryz.func171, Tryz.ntmps171
  go_wp2_with fail
  rw [← HW.out]
  refine HT1.out.mono ?_
  rintro e w1 ⟨v1, m1, i1, ok1, rfl, ht1, hc1, hr1, ho1, hi1, htold1⟩
  have hall1 : Only b w w1 := (Only.of_below HBA.out).then2 ho1 (Nat.le_refl _)
  have b2 : w1.heap[w.heap.size + 1]? = some (.cells #[.int .u64 0] 23 (0, 0)) := (ho1.block _ (by have := HZW.out; omega) (by have := HLT.out; omega) (by omega)).trans HA2.out
  have b3 : w1.heap[w.heap.size + 2]? = some (.cells #[.int .u64 0] 23 (0, 0)) := (ho1.block _ (by have := HZW.out; omega) (by have := HLT.out; omega) (by omega)).trans HA3.out
  clear HT1 HW
  rcases htold1 with ⟨rfl, hp1⟩ | ⟨rfl, hp1⟩
  · have h01 : Below w0.heap.size w0 w1 := Below.only H0.out HB.out (Nat.le_of_lt (Nat.lt_of_le_of_lt HB.out HR.out.lt)) hall1
    have hT2 := number_any w0 b (w.heap.size + 1) 23 w1 sv l i1 false (.slice none 0 0) kv dv fv hr1 HSV.out h01 HB.out hi1 b2 (by have := HLT.out; omega)
    have hz1 : w.heap.size + 3 ≤ w1.heap.size := by have := HZW.out; have := ho1.size; omega
    have HT2 := Lib.hid hT2; have HC1 := Lib.hid hc1; have HR1 := Lib.hid hr1; have HP1 := Lib.hid hp1; have HTX1 := Lib.hid ht1; have HA1 := Lib.hid hall1; have HB2 := Lib.hid b2; have HB3 := Lib.hid b3; have HZ1 := Lib.hid hz1
    clear hT2 h01 hc1 hr1 hp1 ht1 hall1 ho1 hi1 b2 b3 hz1
    go_wp2_with fail
    refine HT2.out.mono ?_
    rintro e w2 ⟨n2, i2, ok2, rfl, hn2, hc2, hr2, ho2, hi2, htold2⟩
    have hall2 : Only b w w2 := HA1.out.then2 ho2 (by omega)
    have d1 : w2.heap[w.heap.size]? = some (.cells #[v1] 26 (0, 0)) := (ho2.block _ (by have := HZ1.out; omega) (by have := HLT.out; omega) (by omega)).trans HC1.out
    have d3 : w2.heap[w.heap.size + 2]? = some (.cells #[.int .u64 0] 23 (0, 0)) := (ho2.block _ (by have := HZ1.out; omega) (by have := HLT.out; omega) (by omega)).trans HB3.out
    have ht12 : Txt w2 b v1 m1 := HTX1.out.only2 HR1.out HB2.out ty_u64.1 ho2
    clear HT2 HB2 HB3
    rcases htold2 with ⟨rfl, a2, hp2, rfl⟩ | ⟨rfl, hp2⟩
    · have h02 : Below w0.heap.size w0 w2 := Below.only H0.out HB.out (Nat.le_of_lt (Nat.lt_of_le_of_lt HB.out HR.out.lt)) hall2
      have hT3 := number_any w0 b (w.heap.size + 2) 23 w2 sv l i2 false (.slice none 0 0) kv dv fv hr2 HSV.out h02 HB.out hi2 d3 (by have := HLT.out; omega)
      have hz2 : w.heap.size + 3 ≤ w2.heap.size := by have := HZ1.out; have := ho2.size; omega
      have HT3 := Lib.hid hT3; have HC2 := Lib.hid hc2; have HD1 := Lib.hid d1; have HD3 := Lib.hid d3; have HR2 := Lib.hid hr2; have HP2 := Lib.hid hp2; have HTX2 := Lib.hid ht12; have HA2' := Lib.hid hall2; have HZ2 := Lib.hid hz2; have HN2 := Lib.hid hn2
      clear hT3 h02 hc2 hr2 hp2 ht12 hall2 ho2 hi2 d1 d3 hz2 hn2
      go_wp2_with fail
      refine HT3.out.mono ?_
      rintro e w3 ⟨n3, i3, ok3, rfl, hn3, hc3, hr3, ho3, hi3, htold3⟩
      have hall3 : Only b w w3 := HA2'.out.then2 ho3 (by omega)
      have f1 : w3.heap[w.heap.size]? = some (.cells #[v1] 26 (0, 0)) := (ho3.block _ (by have := HZ2.out; omega) (by have := HLT.out; omega) (by omega)).trans HD1.out
      have f2 : w3.heap[w.heap.size + 1]? = some (.cells #[.int .u64 (numOf a2 : Nat)] 23 (0, 0)) := (ho3.block _ (by have := HZ2.out; omega) (by have := HLT.out; omega) (by omega)).trans HC2.out
      have ht13 : Txt w3 b v1 m1 := HTX2.out.only2 HR2.out HD3.out ty_u64.1 ho3
      have hnn2 := HN2.out
      have htold : (ok3 = true ∧ pKd (l.drop i) = some ((m1, ⟨RowKit.wrap64 (numOf a2 : Nat), n3⟩), l.drop i3)) ∨ (ok3 = false ∧ pKd (l.drop i) = none) := by
        rcases htold3 with ⟨h1, a3, h2, rfl⟩ | ⟨h1, h2⟩
        · exact .inl ⟨h1, kd_ok HP1.out HP2.out h2⟩
        · exact .inr ⟨h1, kd_no3 HP1.out HP2.out h2⟩
      have HTOLD := Lib.hid htold
      clear HT3 HC1 HR1 HTX1 HA1 HP1 HC2 HD1 HD3 HR2 HP2 HTX2 HA2' HN2 htold3 htold
      have hky := HKY.out.only HR.out hall3
      have hkd := HKD.out.only HR.out hall3
      have h0w : Below w0.heap.size w0 w3 := Below.only H0.out HB.out (Nat.le_of_lt (Nat.lt_of_le_of_lt HB.out HR.out.lt)) hall3
      obtain ⟨p4, n4, c4, w4, hrun4, hr4, hr5, hky5, hkd5, h05, hstay⟩ := key_push (k := m1) hr3 hky hkd h0w HB.out (by rw [List.length_map]; have := HN.out; omega) ht13
      have g2 := hstay _ _ f2
      have g3 := hstay _ _ hc3
      obtain ⟨p6, n6, c6, w6, hrun6, hr6, hr7, hky7, hkd7, h07⟩ := kid_push (d := ⟨RowKit.wrap64 (numOf a2 : Nat), n3⟩) hr5 hky5 hkd5 h05 HB.out (by rw [List.length_map]; have := HN.out; omega) ⟨by show RowKit.wrap64 _ ≤ _; unfold RowKit.wrap64; omega, hn3⟩
      have hst : InSt w0 b (w6.setCell ⟨b, 5, none⟩ (.slice p6 n6 c6)) sv i3 fv (xs ++ [(m1, ⟨RowKit.wrap64 (numOf a2 : Nat), n3⟩)]) := ⟨_, _, hr7, by simpa using hky7, by simpa using hkd7, h07⟩
      have k4 := cells_of hr3 4
      have e0 := cells_of f1 0
      have q4 := cells_of hr4 4
      have qf4 := free_of hr4 4
      have k5 := cells_of hr5 5
      have e2 := cells_of g2 0
      have e3 : (w4.setCell ⟨b, 4, none⟩ (.slice p4 n4 c4)).cell? ⟨w.heap.size + 1 + 1, 0, none⟩ = some (.int .u64 (n3 : Nat)) := cells_of g3 0
      have q6 := cells_of hr6 5
      have qf6 := free_of hr6 5
      simp only [List.getElem?_toArray, List.getElem?_cons_zero, List.getElem?_cons_succ] at k4 e0 q4 k5 e2 q6
      have hw5 : b < (w4.setCell ⟨b, 4, none⟩ (.slice p4 n4 c4)).heap.size := hr5.lt
      obtain ⟨pk, ck, rfl, -⟩ := hky.at_
      obtain ⟨pd, cd, rfl, -⟩ := hkd.at_
      obtain ⟨pa, ca, rfl, -⟩ := ht13.bytes.any
      generalize (xs.map (·.1)).length = NK at *
      generalize (xs.map (·.2)).length = ND at *
      have k41 : (w3.alloc (.cells #[.slice pa m1.length ca] 26)).cell? ⟨b, 4, none⟩ = some (.slice pk NK ck) := (World.cell?_alloc_lt _ _ _ hr3.lt).trans k4
      have hO : IntKind.i64.wrap ((numOf a2 : Nat) : Int) = RowKit.wrap64 (numOf a2 : Nat) := by rw [IntKind.wrap_i64]; unfold RowKit.wrap64; rfl
      generalize RowKit.wrap64 (numOf a2 : Nat) = O at *
      generalize hW5 : w4.setCell ⟨b, 4, none⟩ (.slice p4 n4 c4) = W5 at *
      have k51 : (W5.alloc (.cells #[.int .i64 O, .int .u64 (n3 : Nat)] 25)).cell? ⟨b, 5, none⟩ = some (.slice pd ND cd) := (World.cell?_alloc_lt _ _ _ hw5).trans k5
      have e21 : (W5.alloc (.cells #[.int .i64 O, .int .u64 (n3 : Nat)] 25)).cell? ⟨w.heap.size + 1, 0, none⟩ = some (.int .u64 (numOf a2 : Nat)) := (World.cell?_alloc_lt _ _ _ (Array.getElem?_eq_some_iff.1 g2).1).trans e2
      have e31 : (W5.alloc (.cells #[.int .i64 O, .int .u64 (n3 : Nat)] 25)).cell? ⟨w.heap.size + 1 + 1, 0, none⟩ = some (.int .u64 (n3 : Nat)) := (World.cell?_alloc_lt _ _ _ (Array.getElem?_eq_some_iff.1 g3).1).trans e3
      have HRUN4 := Lib.hid hrun4; have HRUN6 := Lib.hid hrun6; have HST := Lib.hid hst; have HI := Lib.hid hi3; have HW5 := Lib.hid hW5
      clear hky hkd h0w hrun4 hr4 hr5 hky5 hkd5 h05 hstay hrun6 hr6 hr7 hky7 hkd7 h07 hst hr3 hall3 f1 f2 hc3 ht13 g2 g3 hw5 hW5 hi3
      go_wp2
      apply share
      · intro HT
        go_region_law ((refine step_append_run rfl (.tmp 22) (.tmp 24) 36 36 rfl (.slice pk NK ck) (.slice (some ⟨w3.heap.size, 0, none⟩) 1 1) rfl rfl (.slice p4 n4 c4) w4 HRUN4.out ?_))
        all_goals exact HT
      rw [HW5.out]
      go_wp2
      go_region_law ((refine step_append_run rfl (.tmp 34) (.tmp 39) 34 34 rfl (.slice pd ND cd) (.slice (some ⟨W5.heap.size, 0, none⟩) 1 1) rfl rfl (.slice p6 n6 c6) w6 HRUN6.out ?_))
      all_goals
        go_wp2
        go_ret
        exact ⟨_, _, _, rfl, HST.out, HI.out, HTOLD.out⟩
    · have HTOLD := Lib.hid (kd_no2 HP1.out hp2)
      obtain ⟨Z, hZ⟩ : ∃ Z : Nat, Z = 0 := ⟨0, rfl⟩
      have d3' : w2.heap[w.heap.size + 2]? = some (.cells #[.int .u64 (Z : Nat)] 23 (0, 0)) := by rw [hZ]; exact d3
      have hz9 : Z < 18446744073709551616 := by omega
      clear HC1 HR1 HTX1 HA1 HP1 hp2 d3 hZ
      have hky := HKY.out.only HR.out hall2
      have hkd := HKD.out.only HR.out hall2
      have h0w : Below w0.heap.size w0 w2 := Below.only H0.out HB.out (Nat.le_of_lt (Nat.lt_of_le_of_lt HB.out HR.out.lt)) hall2
      obtain ⟨p4, n4, c4, w4, hrun4, hr4, hr5, hky5, hkd5, h05, hstay⟩ := key_push (k := m1) hr2 hky hkd h0w HB.out (by rw [List.length_map]; have := HN.out; omega) ht12
      have g2 := hstay _ _ hc2
      have g3 := hstay _ _ d3'
      obtain ⟨p6, n6, c6, w6, hrun6, hr6, hr7, hky7, hkd7, h07⟩ := kid_push (d := ⟨RowKit.wrap64 (n2 : Nat), Z⟩) hr5 hky5 hkd5 h05 HB.out (by rw [List.length_map]; have := HN.out; omega) ⟨by show RowKit.wrap64 _ ≤ _; unfold RowKit.wrap64; omega, hz9⟩
      have hst : InSt w0 b (w6.setCell ⟨b, 5, none⟩ (.slice p6 n6 c6)) sv i2 fv (xs ++ [(m1, ⟨RowKit.wrap64 (n2 : Nat), Z⟩)]) := ⟨_, _, hr7, by simpa using hky7, by simpa using hkd7, h07⟩
      have k4 := cells_of hr2 4
      have e0 := cells_of d1 0
      have q4 := cells_of hr4 4
      have qf4 := free_of hr4 4
      have k5 := cells_of hr5 5
      have e2 := cells_of g2 0
      have e3 : (w4.setCell ⟨b, 4, none⟩ (.slice p4 n4 c4)).cell? ⟨w.heap.size + 1 + 1, 0, none⟩ = some (.int .u64 (Z : Nat)) := cells_of g3 0
      have q6 := cells_of hr6 5
      have qf6 := free_of hr6 5
      simp only [List.getElem?_toArray, List.getElem?_cons_zero, List.getElem?_cons_succ] at k4 e0 q4 k5 e2 q6
      have hw5 : b < (w4.setCell ⟨b, 4, none⟩ (.slice p4 n4 c4)).heap.size := hr5.lt
      obtain ⟨pk, ck, rfl, -⟩ := hky.at_
      obtain ⟨pd, cd, rfl, -⟩ := hkd.at_
      obtain ⟨pa, ca, rfl, -⟩ := ht12.bytes.any
      generalize (xs.map (·.1)).length = NK at *
      generalize (xs.map (·.2)).length = ND at *
      have k41 : (w2.alloc (.cells #[.slice pa m1.length ca] 26)).cell? ⟨b, 4, none⟩ = some (.slice pk NK ck) := (World.cell?_alloc_lt _ _ _ hr2.lt).trans k4
      have hO : IntKind.i64.wrap ((n2 : Nat) : Int) = RowKit.wrap64 (n2 : Nat) := by rw [IntKind.wrap_i64]; unfold RowKit.wrap64; rfl
      generalize RowKit.wrap64 (n2 : Nat) = O at *
      generalize hW5 : w4.setCell ⟨b, 4, none⟩ (.slice p4 n4 c4) = W5 at *
      have k51 : (W5.alloc (.cells #[.int .i64 O, .int .u64 (Z : Nat)] 25)).cell? ⟨b, 5, none⟩ = some (.slice pd ND cd) := (World.cell?_alloc_lt _ _ _ hw5).trans k5
      have e21 : (W5.alloc (.cells #[.int .i64 O, .int .u64 (Z : Nat)] 25)).cell? ⟨w.heap.size + 1, 0, none⟩ = some (.int .u64 (n2 : Nat)) := (World.cell?_alloc_lt _ _ _ (Array.getElem?_eq_some_iff.1 g2).1).trans e2
      have e31 : (W5.alloc (.cells #[.int .i64 O, .int .u64 (Z : Nat)] 25)).cell? ⟨w.heap.size + 1 + 1, 0, none⟩ = some (.int .u64 (Z : Nat)) := (World.cell?_alloc_lt _ _ _ (Array.getElem?_eq_some_iff.1 g3).1).trans e3
      have HRUN4 := Lib.hid hrun4; have HRUN6 := Lib.hid hrun6; have HST := Lib.hid hst; have HI := Lib.hid hi2; have HW5 := Lib.hid hW5
      clear hky hkd h0w hrun4 hr4 hr5 hky5 hkd5 h05 hstay hrun6 hr6 hr7 hky7 hkd7 h07 hst hr2 hall2 d1 hc2 d3' ht12 g2 g3 hw5 hW5 hi2
      go_wp2
      apply share
      · intro HT
        go_region_law ((refine step_append_run rfl (.tmp 22) (.tmp 24) 36 36 rfl (.slice pk NK ck) (.slice (some ⟨w2.heap.size, 0, none⟩) 1 1) rfl rfl (.slice p4 n4 c4) w4 HRUN4.out ?_))
        all_goals exact HT
      rw [HW5.out]
      go_wp2
      go_region_law ((refine step_append_run rfl (.tmp 34) (.tmp 39) 34 34 rfl (.slice pd ND cd) (.slice (some ⟨W5.heap.size, 0, none⟩) 1 1) rfl rfl (.slice p6 n6 c6) w6 HRUN6.out ?_))
      all_goals
        go_wp2
        go_ret
        exact ⟨_, _, _, rfl, HST.out, HI.out, .inr ⟨rfl, HTOLD.out⟩⟩
  · have HTOLD := Lib.hid (kd_no1 hp1)
    obtain ⟨Z, hZ⟩ : ∃ Z : Nat, Z = 0 := ⟨0, rfl⟩
    have b2' : w1.heap[w.heap.size + 1]? = some (.cells #[.int .u64 (Z : Nat)] 23 (0, 0)) := by rw [hZ]; exact b2
    have b3' : w1.heap[w.heap.size + 2]? = some (.cells #[.int .u64 (Z : Nat)] 23 (0, 0)) := by rw [hZ]; exact b3
    have hz9 : Z < 18446744073709551616 := by omega
    clear hp1 b2 b3 hZ
    have hky := HKY.out.only HR.out hall1
    have hkd := HKD.out.only HR.out hall1
    have h0w : Below w0.heap.size w0 w1 := Below.only H0.out HB.out (Nat.le_of_lt (Nat.lt_of_le_of_lt HB.out HR.out.lt)) hall1
    obtain ⟨p4, n4, c4, w4, hrun4, hr4, hr5, hky5, hkd5, h05, hstay⟩ := key_push (k := m1) hr1 hky hkd h0w HB.out (by rw [List.length_map]; have := HN.out; omega) ht1
    have g2 := hstay _ _ b2'
    have g3 := hstay _ _ b3'
    obtain ⟨p6, n6, c6, w6, hrun6, hr6, hr7, hky7, hkd7, h07⟩ := kid_push (d := ⟨RowKit.wrap64 (Z : Nat), Z⟩) hr5 hky5 hkd5 h05 HB.out (by rw [List.length_map]; have := HN.out; omega) ⟨by show RowKit.wrap64 _ ≤ _; unfold RowKit.wrap64; omega, hz9⟩
    have hst : InSt w0 b (w6.setCell ⟨b, 5, none⟩ (.slice p6 n6 c6)) sv i1 fv (xs ++ [(m1, ⟨RowKit.wrap64 (Z : Nat), Z⟩)]) := ⟨_, _, hr7, by simpa using hky7, by simpa using hkd7, h07⟩
    have k4 := cells_of hr1 4
    have e0 := cells_of hc1 0
    have q4 := cells_of hr4 4
    have qf4 := free_of hr4 4
    have k5 := cells_of hr5 5
    have e2 := cells_of g2 0
    have e3 : (w4.setCell ⟨b, 4, none⟩ (.slice p4 n4 c4)).cell? ⟨w.heap.size + 1 + 1, 0, none⟩ = some (.int .u64 (Z : Nat)) := cells_of g3 0
    have q6 := cells_of hr6 5
    have qf6 := free_of hr6 5
    simp only [List.getElem?_toArray, List.getElem?_cons_zero, List.getElem?_cons_succ, List.setIfInBounds_toArray, List.set_cons_zero] at k4 e0 q4 k5 e2 q6
    have hw5 : b < (w4.setCell ⟨b, 4, none⟩ (.slice p4 n4 c4)).heap.size := hr5.lt
    obtain ⟨pk, ck, rfl, -⟩ := hky.at_
    obtain ⟨pd, cd, rfl, -⟩ := hkd.at_
    obtain ⟨pa, ca, rfl, -⟩ := ht1.bytes.any
    generalize (xs.map (·.1)).length = NK at *
    generalize (xs.map (·.2)).length = ND at *
    have k41 : (w1.alloc (.cells #[.slice pa m1.length ca] 26)).cell? ⟨b, 4, none⟩ = some (.slice pk NK ck) := (World.cell?_alloc_lt _ _ _ hr1.lt).trans k4
    have hO : IntKind.i64.wrap ((Z : Nat) : Int) = RowKit.wrap64 (Z : Nat) := by rw [IntKind.wrap_i64]; unfold RowKit.wrap64; rfl
    generalize RowKit.wrap64 (Z : Nat) = O at *
    generalize hW5 : w4.setCell ⟨b, 4, none⟩ (.slice p4 n4 c4) = W5 at *
    have k51 : (W5.alloc (.cells #[.int .i64 O, .int .u64 (Z : Nat)] 25)).cell? ⟨b, 5, none⟩ = some (.slice pd ND cd) := (World.cell?_alloc_lt _ _ _ hw5).trans k5
    have e21 : (W5.alloc (.cells #[.int .i64 O, .int .u64 (Z : Nat)] 25)).cell? ⟨w.heap.size + 1, 0, none⟩ = some (.int .u64 (Z : Nat)) := (World.cell?_alloc_lt _ _ _ (Array.getElem?_eq_some_iff.1 g2).1).trans e2
    have e31 : (W5.alloc (.cells #[.int .i64 O, .int .u64 (Z : Nat)] 25)).cell? ⟨w.heap.size + 1 + 1, 0, none⟩ = some (.int .u64 (Z : Nat)) := (World.cell?_alloc_lt _ _ _ (Array.getElem?_eq_some_iff.1 g3).1).trans e3
    have HRUN4 := Lib.hid hrun4; have HRUN6 := Lib.hid hrun6; have HST := Lib.hid hst; have HI := Lib.hid hi1; have HW5 := Lib.hid hW5
    clear hky hkd h0w hrun4 hr4 hr5 hky5 hkd5 h05 hstay hrun6 hr6 hr7 hky7 hkd7 h07 hst hr1 hall1 hc1 b2' b3' ht1 g2 g3 hw5 hW5 hi1
    go_wp2
    apply share
    · intro HT
      go_region_law ((refine step_append_run rfl (.tmp 22) (.tmp 24) 36 36 rfl (.slice pk NK ck) (.slice (some ⟨w1.heap.size, 0, none⟩) 1 1) rfl rfl (.slice p4 n4 c4) w4 HRUN4.out ?_))
      all_goals exact HT
    rw [HW5.out]
    go_wp2
    go_region_law ((refine step_append_run rfl (.tmp 34) (.tmp 39) 34 34 rfl (.slice pd ND cd) (.slice (some ⟨W5.heap.size, 0, none⟩) 1 1) rfl rfl (.slice p6 n6 c6) w6 HRUN6.out ?_))
    all_goals
      go_wp2
      go_ret
      exact ⟨_, _, _, rfl, HST.out, HI.out, .inr ⟨rfl, HTOLD.out⟩⟩
end Go.Proofs.YtlagllhhahomlaaGreat.Sl.Nd
/- Rows of items in a program: Groups. -/
namespace Go.By
open Go Go.RowKit
def intsC (l : List Nat) : List Value := l.map fun (c : Nat) => .int .i64 c
theorem intsC_length (l : List Nat) : (intsC l).length = l.length := by simp [intsC]
theorem intsC_get {l : List Nat} {i : Nat} (h : i < l.length) : (intsC l)[i]? = some (.int .i64 (atB l i : Nat)) := by
  simp [intsC, atB, List.getElem?_eq_getElem h]
theorem intsC_set (l : List Nat) (i x : Nat) : (intsC l).set i (.int .i64 x) = intsC (l.set i x) := by
  simp [intsC, List.map_set]
def gpart (n k : Nat) : List Nat := (groupsOf n).take k ++ List.replicate (gk n - k) 0
theorem gpart_length (n k : Nat) (h : k ≤ gk n) : (gpart n k).length = gk n := by
  unfold gpart
  rw [List.length_append, List.length_take, groupsOf_length, List.length_replicate]
  omega
theorem gpart_all (n : Nat) : gpart n (gk n) = groupsOf n := by
  unfold gpart
  rw [← groupsOf_length, List.take_length, Nat.sub_self]
  simp
theorem gpart_next {n k : Nat} (h : k < gk n) : (gpart n k).set k (grpAt n k) = gpart n (k + 1) := by
  have hl : k < (groupsOf n).length := by rw [groupsOf_length]; exact h
  unfold gpart
  have e : ((groupsOf n).take k).length = k := by rw [List.length_take]; omega
  rw [List.set_append_right _ _ (by omega), e, Nat.sub_self, List.take_succ_eq_append_getElem hl, groupsOf_at hl]
  have : gk n - k = (gk n - (k + 1)) + 1 := by omega
  rw [this, List.replicate_succ]
  simp
end Go.By
namespace Go.Proofs.YtlagllhhahomlaaGreat.Sl.Nd.Lf
open Go Go.RowKit Go.By
def IntsTold (w : World) (l : List Nat) (e : Ending) (w' : World) : Prop := ∃ p c, e = .returned (.slice p l.length c) ∧ w'.ownsRow w.heap.size 3 1 (.slice p l.length c) l.length (intsC l) ∧ Below w.heap.size w w'
def GrpRel (w : World) (m : Nat) (i : Value) (W : World) : Prop :=
  ∃ k : Nat, k ≤ gk m ∧ i = .int .i64 k ∧ W.heap[w.heap.size]? = some (.cells (intsC (gpart m k)).toArray 3 (0, 0)) ∧ Below w.heap.size w W
set_option maxRecDepth 1000000 in
theorem info_int : ∃ i, Tryz.prog.info? 3 = some i ∧ i.zero = some (.int .i64 0) ∧ i.size = 1 ∧ i.bytes = 8 := ⟨_, rfl, rfl, rfl, rfl⟩
set_option maxRecDepth 1000000 in
theorem ints_made (c : Nat) (C : Int) (hC : C = c) (hc : c ≤ 2000000) (w : World) :
    (Instr.makeSlice 208 (.int .i64 C) (.int .i64 C)).run Tryz.prog w = .ok (.slice (some ⟨w.heap.size, 0, none⟩) c c) (w.alloc (.cells (intsC (List.replicate c 0)).toArray 3)) := by
  subst hC
  obtain ⟨i, hi, hz, hs, hb⟩ := info_int
  have h := run_make (P := Tryz.prog) w 208 3 i _ (by kernel_rfl) hi hz .i64 .i64 (c : Int) (c : Int) (by omega) (by omega) (by rw [hb]; omega) (by omega)
  simp only [Int.toNat_natCast, hs] at h
  rw [h]
  congr 4
  apply Array.toList_inj.1
  apply List.ext_getElem
  · simp [madeCells, intsC]
  · intro j h1 h2
    simp [madeCells, intsC, Value.cells, Nat.mod_one]
set_option maxRecDepth 100000 in
set_option maxHeartbeats 1000000 in
theorem groups_any (m : Nat) (w : World) (h1 : 1 ≤ m) (h2 : m ≤ 1048576) : Calls Tryz.prog 155 #[.int .i64 (m : Nat)] w (IntsTold w (groupsOf m)) := by
  have hg1 := gk_pos h1
  have hgl := gk_le h1
  have hc : ((m : Int) + 8 - 1) / 8 = (gk m : Nat) := by unfold gk; omega
  have hmk := ints_made (gk m) (gk m : Nat) rfl (by omega)
  have hq : (m : Int) / ((gk m : Nat) : Int) = ((gq m : Nat) : Int) := by unfold gq; rw [Int.natCast_ediv]
  have hr : (m : Int) % ((gk m : Nat) : Int) = ((gr m : Nat) : Int) := by unfold gr; rw [Int.natCast_emod]
  have hql : gq m ≤ m := Nat.div_le_self _ _
  have hrl := gr_lt h1
  have hm9 : (m : Int) ≤ 1048576 := by omega
  have hm1 : (1 : Int) ≤ m := by omega
  have hG1 : (1 : Int) ≤ (gk m : Nat) := by omega
  have hG9 : ((gk m : Nat) : Int) ≤ 1048576 := by omega
  have hQ9 : ((gq m : Nat) : Int) ≤ 1048576 := by omega
  have hbw := (Below.refl w.heap.size w).alloc (Nat.le_refl _) (.cells (intsC (List.replicate (gk m) 0)).toArray 3)
  have H0 : Hid (GrpRel w m (.int .i64 (0 : Nat)) (w.alloc (.cells (intsC (List.replicate (gk m) 0)).toArray 3))) := ⟨0, Nat.zero_le _, rfl, by
    have e : gpart m 0 = List.replicate (gk m) 0 := by unfold gpart; simp
    rw [e]; exact heap_alloc_new w _, hbw⟩
  have HN1 : Hid (∀ k (W : World), k < gk m → k < gr m → W.heap[w.heap.size]? = some (.cells (intsC (gpart m k)).toArray 3 (0, 0)) → Below w.heap.size w W → GrpRel w m (.int .i64 (k + 1 : Nat)) ((W.setCell ⟨w.heap.size, k, none⟩ (.int .i64 (gq m : Nat))).setCell ⟨w.heap.size, k, none⟩ (.int .i64 ((gq m : Nat) + 1)))) := fun k W hk hkr hW hb => by
    have e : ((gq m : Nat) : Int) + 1 = (grpAt m k : Nat) := by unfold grpAt; rw [if_pos hkr]; omega
    refine ⟨k + 1, hk, rfl, ?_, (hb.setCell (Nat.le_refl _) _).setCell (Nat.le_refl _) _⟩
    rw [set_heap (set_heap hW k _) k, e, ← gpart_next hk, ← intsC_set]
    simp
  have HN2 : Hid (∀ k (W : World), k < gk m → ¬ k < gr m → W.heap[w.heap.size]? = some (.cells (intsC (gpart m k)).toArray 3 (0, 0)) → Below w.heap.size w W → GrpRel w m (.int .i64 (k + 1 : Nat)) (W.setCell ⟨w.heap.size, k, none⟩ (.int .i64 (gq m : Nat)))) := fun k W hk hkr hW hb => by
    have e : ((gq m : Nat) : Int) = (grpAt m k : Nat) := by unfold grpAt; rw [if_neg hkr]; rfl
    refine ⟨k + 1, hk, rfl, ?_, hb.setCell (Nat.le_refl _) _⟩
    rw [e, set_heap hW k, ← gpart_next hk, ← intsC_set]
    simp
  have HREL : Hid (∀ i W, GrpRel w m i W → ∃ k : Nat, k ≤ gk m ∧ i = .int .i64 k ∧ W.heap[w.heap.size]? = some (.cells (intsC (gpart m k)).toArray 3 (0, 0)) ∧ Below w.heap.size w W) := fun _ _ h => h
  have HEND : Hid (∀ W, GrpRel w m (.int .i64 (gk m : Nat)) W → IntsTold w (groupsOf m) (.returned (.slice (some ⟨w.heap.size, 0, none⟩) (gk m) (gk m))) W) := fun W ⟨k, hk, e, hW, hb⟩ => by
    obtain rfl : gk m = k := by
      simp only [Value.int.injEq, true_and] at e
      omega
    rw [gpart_all] at hW
    refine ⟨some ⟨w.heap.size, 0, none⟩, gk m, by rw [groupsOf_length], ?_, hb⟩
    rw [groupsOf_length]
    exact ⟨by rw [intsC_length, groupsOf_length, Nat.mul_one], .inr ⟨w.heap.size, gk m, _, rfl, Nat.le_refl _, hW, Nat.le_refl _, by unfold maxLen; omega, by simp [intsC, groupsOf_length], by simp [intsC, groupsOf_length, List.take_of_length_le]⟩⟩
  have HLEN : Hid (∀ k, k ≤ gk m → (gpart m k).length = gk m) := fun k hk => gpart_length m k hk
  clear hgl hql hrl h1 h2 hbw hg1
  generalize gk m = G at *
  generalize gq m = Q at *
  generalize gr m = R at *
  go_enter Tryz.func155, Tryz.ntmps155
  go_wp2
  go_loopw [18] (fun i W => GrpRel w m i W) (fun i _ => G - (intOf i).toNat)
  case atStart => exact H0.out
  case round =>
    clear H0 hmk hc
    have hrel' := hrel
    obtain ⟨k, hk, rfl, hW, hb⟩ := HREL.out _ _ hrel
    by_cases hlt : k < G
    · have hcell : wr.cell? ⟨w.heap.size, k, none⟩ = some (.int .i64 (atB (gpart m k) k : Nat)) := by
        have hkl : k < (gpart m k).length := by rw [HLEN.out k (by omega)]; exact hlt
        rw [cells_of hW, List.getElem?_toArray, intsC_get hkl]
      have hfr := free_of hW k
      have HLT := Lib.hid hlt
      have hL : w.heap.size < wr.heap.size := (Array.getElem?_eq_some_iff.1 hW).1
      by_cases hkr : k < R
      · have HR := Lib.hid (HN1.out k wr hlt hkr hW hb)
        clear hrel' hrel hW hb HREL HN1 HN2 HEND HLEN
        go_wp2
        go_roundw
        case rel => exact HR.out
        case measure => simp [intOf]; have := HLT.out; omega
      · have HR := Lib.hid (HN2.out k wr hlt hkr hW hb)
        clear hrel' hrel hW hb HREL HN1 HN2 HEND HLEN
        go_wp2
        go_roundw
        case rel => exact HR.out
        case measure => simp [intOf]; have := HLT.out; omega
    · obtain rfl : k = G := by omega
      have HF := Lib.hid (HEND.out wr hrel')
      clear hrel' hrel hW hb HREL HN1 HN2 HEND HLEN
      go_wp2
      go_ret
      exact HF.out
end Go.Proofs.YtlagllhhahomlaaGreat.Sl.Nd.Lf
/- Rows of items in a program: keys that are sought; copies; one item more. -/
namespace Go.Proofs.YtlagllhhahomlaaGreat.Sl.Nd.Lf
open Go Go.RowKit Go.By
set_option maxRecDepth 100000 in
theorem isAbove_any (v a b : Value) (k : List Nat) (i : NIt) (w : World) (hv : Bytes w v k) (ha : Bytes w a i.k) (hb : Bytes w b i.v) :
    Calls Tryz.prog 173 #[v, .agg #[a, b]] w fun e w' => e = .returned (.bool (isAb k i)) ∧ w' = w.alloc (.cells #[a, b] 49) := by
  have hbo := (Below.refl w.heap.size w).alloc (Nat.le_refl _) (.cells #[a, b] 49)
  have HC := Lib.hid (compare_any v a k i.k _ (hv.below hbo) (ha.below hbo))
  have HE : Hid (decide (0 < cmpN k i.k) = isAb k i) := cmpN_more hv.small ha.small
  obtain ⟨qa, ca, rfl, -⟩ := ha.any
  obtain ⟨qb, cb, rfl, -⟩ := hb.any
  obtain ⟨qv, cv, rfl, -⟩ := hv.any
  clear hv ha hb hbo
  generalize cmpN k i.k = x at *
  generalize k.length = l1 at *
  generalize i.k.length = l2 at *
  generalize i.v.length = l3 at *
  go_enter Tryz.func173, Tryz.ntmps173
  go_wp2_with fail
  refine HC.out.mono ?_
  rintro e w1 ⟨rfl, rfl⟩
  go_wp2
  go_ret
  exact ⟨by rw [← HE.out]; rfl, rfl⟩
set_option maxRecDepth 100000 in
theorem isOf_any (v a b : Value) (k : List Nat) (i : NIt) (w : World) (hv : Bytes w v k) (ha : Bytes w a i.k) (hb : Bytes w b i.v) :
    Calls Tryz.prog 174 #[v, .agg #[a, b]] w fun e w' => e = .returned (.bool (decide (k = i.k))) ∧ w' = w.alloc (.cells #[a, b] 49) := by
  have hbo := (Below.refl w.heap.size w).alloc (Nat.le_refl _) (.cells #[a, b] 49)
  have HC := Lib.hid (equal_any v a k i.k _ (hv.below hbo) (ha.below hbo))
  obtain ⟨qa, ca, rfl, -⟩ := ha.any
  obtain ⟨qb, cb, rfl, -⟩ := hb.any
  obtain ⟨qv, cv, rfl, -⟩ := hv.any
  clear hv ha hb hbo
  generalize decide (k = i.k) = x at *
  generalize k.length = l1 at *
  generalize i.k.length = l2 at *
  generalize i.v.length = l3 at *
  go_enter Tryz.func174, Tryz.ntmps174
  go_wp2_with fail
  refine HC.out.mono ?_
  rintro e w1 ⟨rfl, rfl⟩
  go_wp2
  go_ret
  exact ⟨rfl, rfl⟩
def Copied (B : Nat) (w : World) (l : List Nat) (e : Ending) (w' : World) : Prop := ∃ p c, e = .returned (.slice p l.length c) ∧ Txt w' B (.slice p l.length c) l ∧ Below w.heap.size w w'
set_option maxRecDepth 100000 in
theorem copied_any (v : Value) (l : List Nat) (B : Nat) (w : World) (hv : Bytes w v l) (hl : l.length ≤ 1000000) (hB : B ≤ w.heap.size) :
    Calls Tryz.prog 192 #[v] w (Copied B w l) := by
  obtain ⟨v1, w1, hrun, ho, hg⟩ := run_append_byt (P := Tryz.prog) 26 byT B (.slice none 0 0) 0 [] (World.ownsRow_nil _ _ _ _) v l hv (by omega) hB
  have hb := hg.below (Below.refl w.heap.size w) (Nat.le_refl _) (by intro k hk; simp [Value.ownBlock] at hk)
  have ho' : w1.ownsRow B 5 1 v1 l.length (cellsOf l) := by simpa using ho
  obtain ⟨p1, c1, rfl⟩ := shape_of ho'
  have HF : Hid (Copied B w l (.returned (.slice p1 l.length c1)) w1) := ⟨p1, c1, rfl, ⟨ho', hv.small, hv.short⟩, hb⟩
  obtain ⟨qv, cv, rfl, -⟩ := hv.any
  have HRUN := Lib.hid hrun
  clear hrun ho hg hb ho' hv
  go_enter Tryz.func192, Tryz.ntmps192
  go_wp2_with (at_builtin; refine Lib.wpList_append_run _ rfl (.const (.slice none 0 0)) (.tmp 3) 26 26 rfl _ _ rfl rfl _ w1 HRUN.out ?_)
  go_ret
  exact HF.out
def ShortIt (i : NIt) : Prop := i.k.length ≤ 1000000 ∧ i.v.length ≤ 1000000
def RwAt (w : World) (r : Nat) (lv mv : Value) : Prop := w.heap[r]? = some (.cells #[lv, mv] 229 (0, 0))
theorem RwAt.lt {w : World} {r : Nat} {lv mv : Value} (h : RwAt w r lv mv) : r < w.heap.size := (Array.getElem?_eq_some_iff.1 h).1
theorem RwAt.below {w w' : World} {r : Nat} {lv mv : Value} (h : RwAt w r lv mv) (hb : Below w.heap.size w w') : RwAt w' r lv mv := (hb.block _ h.lt).trans h
def Made (w0 : World) (r : Nat) (lv : Value) (its : List NIt) (w : World) : Prop := ∃ mv, RwAt w r lv mv ∧ ItRow w w0.heap.size mv its ∧ Below w0.heap.size w0 w
def KeptT (r : Nat) (w w' : World) : Prop := ∀ k cs T fr, k ≠ r → T ≠ 49 → w.heap[k]? = some (.cells cs T fr) → w'.heap[k]? = some (.cells cs T fr)
theorem KeptT.refl (r : Nat) (w : World) : KeptT r w w := fun _ _ _ _ _ _ h => h
theorem KeptT.trans {r : Nat} {w w1 w2 : World} (h : KeptT r w w1) (k : KeptT r w1 w2) : KeptT r w w2 := fun j cs T fr h1 h2 h3 => k j cs T fr h1 h2 (h j cs T fr h1 h2 h3)
theorem KeptT.of_below {r : Nat} {w w' : World} (h : Below w.heap.size w w') : KeptT r w w' := fun j _ _ _ _ _ h3 => (h.block j (Array.getElem?_eq_some_iff.1 h3).1).trans h3
theorem KeptT.set (r i : Nat) (w : World) (v : Value) : KeptT r w (w.setCell ⟨r, i, none⟩ v) := fun j _ _ _ h1 _ h3 => (heap_setCell_other w ⟨r, i, none⟩ j v h1).trans h3
def MadeIs (w0 : World) (r : Nat) (lv : Value) (its : List NIt) (w : World) (e : Ending) (w' : World) : Prop := e = .returned (.tuple #[]) ∧ Made w0 r lv its w' ∧ KeptT r w w'
theorem ty_lrow : 5 ≠ 229 ∧ 49 ≠ 229 := by decide
theorem step_append_run' {P : Program} {w : World} {ops : Array Oper} {o : Oper} {a : Act} {K : Act → World → Prop} {Q : Exit → Act → World → Prop} {E : Prop} (hgd : o.guard = none) (s x : Operand) (t t' : TypeId)
    (ho : o.op = .call { callee := .builtin .append, args := #[s, x], argTypes := #[t, t'] }) (v xv : Value) (hs : a.eval s = v) (hx : a.eval x = xv) (v' : Value) (w' : World) (hrun : (Builtin.append_ #[t, t'] o.type #[v, xv]).run P w = .ok v' w')
    (h : K (a.put o.dst v') w') :
    if Region.wanted o (yielded ops a.tmps) = true then Oper.wp P o a w K Q else E := by
  have hw : Region.wanted o (yielded ops a.tmps) = true := by simp [Region.wanted, hgd]
  rw [if_pos hw]
  unfold Oper.wp execOp
  simp only [ho, resolve, invoke, builtin, Sem.run_bind, Sem.run_pure, Result.andThen_ok, List.map_toArray, List.map_cons, List.map_nil, hs, hx, hrun]
  exact h
theorem row_push {w0 w : World} {r : Nat} {lv mv a c : Value} {its : List NIt} {i : NIt} (hr : RwAt w r lv mv) (hi : ItRow w w0.heap.size mv its) (h0 : Below w0.heap.size w0 w) (hb : w0.heap.size ≤ r) (hn : its.length ≤ 1000000) (ha : Txt w w0.heap.size a i.k) (hc : Txt w w0.heap.size c i.v) :
    ∃ p' n' c' w', (Builtin.append_ #[35, 35] 35 #[mv, .slice (some ⟨w.heap.size, 0, none⟩) 1 1]).run Tryz.prog (w.alloc (.cells #[a, c] 49)) = .ok (.slice p' n' c') w' ∧ RwAt w' r lv mv ∧ Made w0 r lv (its ++ [i]) (w'.setCell ⟨r, 1, none⟩ (.slice p' n' c')) ∧ KeptT r w (w'.setCell ⟨r, 1, none⟩ (.slice p' n' c')) := by
  obtain ⟨v', w', hrun, hrow, hg⟩ := hi.push hn h0.size ha hc
  obtain ⟨cs, _, ho, _⟩ := hi
  have hne : mv.ownBlock ≠ some r := owns_ne ho hr ty_lrow.2
  have hr' : RwAt w' r lv mv := (hg.block hr.lt hne).trans hr
  have hbl : Below w0.heap.size w0 w' := hg.below h0 h0.size (fun k hk => (ho.lt k hk).1)
  obtain ⟨p', c', rfl, -⟩ := hrow.at_
  refine ⟨_, _, _, w', hrun, hr', ⟨_, set_heap hr' 1 _, hrow.onlyT hr' ty_lrow (Only.set r 1 w' _), hbl.setCell hb _⟩, KeptT.trans (fun j cs T fr _ h2 h3 => ?_) (KeptT.set r 1 w' _)⟩
  exact (hg.block (Array.getElem?_eq_some_iff.1 h3).1 (owns_ne ho h3 (fun e => h2 e.symm))).trans h3
set_option maxRecDepth 100000 in
set_option maxHeartbeats 1000000 in
theorem add_any (w0 : World) (r : Nat) (lv : Value) (its : List NIt) (i : NIt) (a b : Value) (w : World) (h : Made w0 r lv its w) (hr : w0.heap.size ≤ r) (ha : Bytes w0 a i.k) (hb : Bytes w0 b i.v) (hl : ShortIt i) (hn : its.length ≤ 1000000) :
    Calls Tryz.prog 175 #[.pointer (some ⟨r, 0, none⟩), a, b] w (MadeIs w0 r lv (its ++ [i]) w) := by
  obtain ⟨mv, h1, h2, h3⟩ := h
  have HK : Hid (∀ W, Below w.heap.size w W → Calls Tryz.prog 192 #[a] W (Copied w0.heap.size W i.k)) := fun W hW => copied_any a i.k w0.heap.size W ((ha.below h3).below hW) hl.1 (Nat.le_trans h3.size hW.size)
  have HV : Hid (∀ W, Below w.heap.size w W → Calls Tryz.prog 192 #[b] W (Copied w0.heap.size W i.v)) := fun W hW => copied_any b i.v w0.heap.size W ((hb.below h3).below hW) hl.2 (Nat.le_trans h3.size hW.size)
  have hc0 := cells_of h1 1
  simp only [List.getElem?_toArray, List.getElem?_cons_zero, List.getElem?_cons_succ] at hc0
  have HD : Hid (Below w.heap.size w w.drew) := (Below.refl _ _).drew
  have HB := Lib.hid h3; have H1 := Lib.hid h1; have H2 := Lib.hid h2; have HR := Lib.hid hr
  have HN : Hid (∀ x : List NIt, x = its → x.length ≤ 1000000) := fun x e => by rw [e]; exact hn
  obtain ⟨pm, cm, rfl, -⟩ := h2.at_
  generalize its.length = NI at *
  clear h1 h2 h3 ha hb hl hr hn
  go_enter Tryz.func175, Tryz.ntmps175
  go_wp2_with fail
  go_region_law (first
    | (go_simp; go_at_call 192; (with_reducible refine (HK.out _ HD.out).mono ?_); rintro e1 w1 ⟨p1, c1, rfl, t1, b1⟩; have HB1 := Lib.hid (HD.out.trans (b1.mono HD.out.size)); have HT1 := Lib.hid t1; have hc1 := cells_of (H1.out.below HB1.out) 1; simp only [List.getElem?_toArray, List.getElem?_cons_zero, List.getElem?_cons_succ] at hc1; clear t1 b1)
    | (go_simp; go_at_call 192; (with_reducible refine (HV.out _ HB1.out).mono ?_); rintro e2 w2 ⟨p2, c2, rfl, t2, b2⟩; have HB2 := Lib.hid (HB1.out.trans (b2.mono HB1.out.size)); obtain ⟨p3, n3, c3, w3, hrun, hr3, hm3, hk3⟩ := row_push (i := i) (H1.out.below HB2.out) (H2.out.below' HB2.out) (HB.out.trans (HB2.out.mono HB.out.size)) HR.out (HN.out _ rfl) (HT1.out.below' b2) t2; have HRUN := Lib.hid hrun; have HM3 := Lib.hid hm3; have HK3 := Lib.hid ((KeptT.of_below HB2.out).trans hk3); have hl2 := (H1.out.below HB2.out).lt; have hc2 := cells_of (H1.out.below HB2.out) 1; have hc3 := cells_of hr3 1; have hf3 := free_of hr3 1; simp only [List.getElem?_toArray, List.getElem?_cons_zero, List.getElem?_cons_succ] at hc2 hc3; clear t2 b2 hrun hr3 hm3 hk3)
    | (refine step_append_run' rfl (.tmp 10) (.tmp 16) 35 35 rfl (.slice pm NI cm) (.slice (some ⟨w2.heap.size, 0, none⟩) 1 1) rfl rfl (.slice p3 n3 c3) w3 HRUN.out ?_))
  all_goals
    go_wp2
    go_returns
    exact ⟨rfl, HM3.out, HK3.out⟩
end Go.Proofs.YtlagllhhahomlaaGreat.Sl.Nd.Lf
/- Rows of items in a program: so many are kept. -/
namespace Go.Proofs.YtlagllhhahomlaaGreat.Sl.Nd.Lf
open Go Go.RowKit Go.By
theorem itT : RowT Tryz.prog 35 2 := ⟨by kernel_rfl, fun w => by kernel_rfl⟩
def Rw (w0 : World) (r : Nat) (x : List NIt × List NIt) (w : World) : Prop := ∃ pl cl, RowAt KItem w0 pl cl x.1 ∧ Made w0 r (.slice pl x.1.length cl) x.2 w
def RwIs (w0 : World) (r : Nat) (x : List NIt × List NIt) (w : World) (e : Ending) (w' : World) : Prop := e = .returned (.tuple #[]) ∧ Rw w0 r x w' ∧ KeptT r w w'
theorem Made.leave {w0 w : World} {r : Nat} {lv : Value} {its : List NIt} (h : Made w0 r lv its w) (hr : w0.heap.size ≤ r) (v : Value) : Made w0 r v its (w.setCell ⟨r, 0, none⟩ v) := by
  obtain ⟨mv, h1, h2, h3⟩ := h
  exact ⟨mv, set_heap h1 0 v, h2.onlyT h1 ty_lrow (Only.set r 0 w v), h3.setCell hr v⟩
theorem Made.more {w0 w w' : World} {r : Nat} {lv : Value} {its : List NIt} (h : Made w0 r lv its w) (hb : Below w.heap.size w w') : Made w0 r lv its w' := by
  obtain ⟨mv, h1, h2, h3⟩ := h
  exact ⟨mv, h1.below hb, h2.below' hb, h3.trans (hb.mono h3.size)⟩
def AllShort (l : List NIt) : Prop := ∀ i ∈ l, ShortIt i
def KeepRel (w0 : World) (r : Nat) (lv : Value) (its made : List NIt) (n : Nat) (w : World) (i : Value) (w' : World) : Prop :=
  ∃ k : Nat, k ≤ n ∧ i = .int .i64 k ∧ Made w0 r lv (made ++ its.take k) w' ∧ KeptT r w w'
set_option maxRecDepth 100000 in
set_option maxHeartbeats 1000000 in
theorem keep_any (w0 : World) (r : Nat) (x : List NIt × List NIt) (n : Nat) (w : World) (h : Rw w0 r x w) (hr : w0.heap.size ≤ r) (hn : n ≤ x.1.length) (hs : AllShort x.1) (hm : x.2.length + x.1.length ≤ 1000000) :
    Calls Tryz.prog 146 #[.pointer (some ⟨r, 0, none⟩), .int .i64 n] w (RwIs w0 r (x.1.drop n, x.2 ++ x.1.take n) w) := by
  obtain ⟨left, made⟩ := x
  obtain ⟨pl, cl, h1, h2⟩ := h
  dsimp only at h1 h2 hn hs hm ⊢
  obtain ⟨hrun1, ht1⟩ := h1.upto itT n n rfl hn
  obtain ⟨q, c, hrun2, ht2⟩ := h1.from_ itT n n rfl hn
  have hc0 : w.cell? ⟨r, 0, none⟩ = some (.slice pl left.length cl) := by
    obtain ⟨mv, g1, _⟩ := h2
    exact cells_of g1 0
  have hfin : Hid (∀ w', Made w0 r (.slice pl left.length cl) (made ++ left.take n) w' → KeptT r w w' → RwIs w0 r (left.drop n, made ++ left.take n) w (.returned (.tuple #[])) (w'.setCell ⟨r, 0, none⟩ (.slice q (left.drop n).length c))) := fun w' hm hk => ⟨rfl, ⟨q, c, ht2, hm.leave hr _⟩, hk.trans (KeptT.set r 0 w' _)⟩
  have hadd : Hid (∀ k (hk : k < left.length) (a b : Value) (W : World), Made w0 r (.slice pl left.length cl) (made ++ left.take k) W → Bytes w0 a left[k].k → Bytes w0 b left[k].v → Calls Tryz.prog 175 #[.pointer (some ⟨r, 0, none⟩), a, b] W (MadeIs w0 r (.slice pl left.length cl) (made ++ left.take (k + 1)) W)) := fun k hk a b W hW ha hb => by
    have := add_any w0 r (.slice pl left.length cl) (made ++ left.take k) left[k] a b W hW hr ha hb (hs _ (List.getElem_mem hk)) (by rw [List.length_append, List.length_take]; omega)
    rwa [List.append_assoc, ← List.take_succ_eq_append_getElem hk] at this
  have HRW : Hid (∀ k (lb lo : Nat), pl = some ⟨lb, lo, none⟩ → ∀ (hk : k < left.length) W made', Made w0 r (.slice pl left.length cl) made' W → ∃ cs, CellsAt W lb (lo + k * 2) cs ∧ KItem.is w0 cs left[k]) := fun k lb lo hp hk W made' hW => by
    obtain ⟨lb', lo', cs, e1, e2, e3⟩ := h1.at_ k hk
    rw [hp] at e1
    obtain ⟨rfl, rfl⟩ : lb = lb' ∧ lo = lo' := by simpa using e1
    obtain ⟨_, _, _, g⟩ := hW
    exact ⟨cs, e2.below g, e3⟩
  have HP : Hid (0 < left.length → ∃ lb lo, pl = some ⟨lb, lo, none⟩) := fun h0 => by
    obtain ⟨lb, lo, e, _⟩ := h1.some h0
    exact ⟨lb, lo, e⟩
  have hL : (left.length : Int) ≤ 1000000 := by omega
  have hl1 : (left.take n).length = n := by rw [List.length_take]; omega
  rw [hl1] at hrun1
  have H0 : Hid (KeepRel w0 r (.slice pl left.length cl) left made n w (.int .i64 (0 : Nat)) w) := ⟨0, by omega, rfl, by simpa using h2, KeptT.refl _ _⟩
  obtain ⟨NL, hNL⟩ : ∃ NL, NL = left.length := ⟨_, rfl⟩
  obtain ⟨ND, hND⟩ : ∃ ND, ND = (left.drop n).length := ⟨_, rfl⟩
  rw [← hNL] at hc0 hrun1 hrun2 hL hn
  rw [← hND] at hrun2 hfin
  have HNL := Lib.hid hNL; have HND := Lib.hid hND
  have HN := Lib.hid hn
  have hn9 : (n : Int) ≤ NL := by omega
  clear h1 h2 ht1 ht2 hr hn hs hm hl1 hNL hND
  go_enter Tryz.func146, Tryz.ntmps146
  go_wp2
  go_loopw [13] (fun i W => KeepRel w0 r (.slice pl left.length cl) left made n w i W) (fun i _ => n - (intOf i).toNat)
  case atStart => exact H0.out
  case round =>
    clear H0 hc0
    obtain ⟨k, hk, rfl, hmd, hkt⟩ := hrel
    have hc0 : wr.cell? ⟨r, 0, none⟩ = some (.slice pl NL cl) := by
      obtain ⟨mv, g1, _⟩ := hmd
      rw [← HNL.out] at g1
      exact cells_of g1 0
    have hf0 : wr.frozen? ⟨r, 0, none⟩ = false := by
      obtain ⟨mv, g1, _⟩ := hmd
      exact free_of g1 0
    by_cases hlt : k < n
    · have hkl : k < left.length := by have := HN.out; have := HNL.out; omega
      obtain ⟨lb, lo, hp⟩ := HP.out (by omega)
      obtain ⟨cs, hcs, a, b, rfl, ha, hb⟩ := HRW.out k lb lo hp hkl wr _ hmd
      obtain ⟨e0, e1⟩ := hcs.two
      have hmd' := hmd.more ((Below.refl wr.heap.size wr).alloc (Nat.le_refl _) (.cells #[a, b] 49))
      have HADD := Lib.hid (hadd.out k hkl a b _ hmd' ha hb)
      have HKT := Lib.hid (hkt.trans (KeptT.of_below ((Below.refl wr.heap.size wr).alloc (Nat.le_refl _) (.cells #[a, b] 49))))
      obtain ⟨qa, ca, rfl, -⟩ := ha.any
      obtain ⟨qb, cb, rfl, -⟩ := hb.any
      have HLT := Lib.hid hlt
      generalize left[k].k.length = l1 at *
      generalize left[k].v.length = l2 at *
      have HPL := Lib.hid hp
      subst hp
      clear hcs ha hb hmd hmd' hkt hfin hkl HPL hrun2
      go_wp2_with fail
      refine HADD.out.mono ?_
      rintro e w2 ⟨rfl, hm2, hk2⟩
      have HR : Hid (KeepRel w0 r (.slice (some ⟨lb, lo, none⟩) left.length cl) left made n w (.int .i64 (k + 1 : Nat)) w2) := ⟨k + 1, by have := HLT.out; omega, rfl, hm2, HKT.out.trans hk2⟩
      clear hm2 hk2
      go_wp2
      go_roundw
      case rel => exact HR.out
      case measure => simp [intOf]; have := HLT.out; omega
    · obtain rfl : k = n := by omega
      have HF := Lib.hid (hfin.out _ hmd hkt)
      clear hmd hkt hfin hadd
      go_wp2
      go_returns
      exact HF.out
end Go.Proofs.YtlagllhhahomlaaGreat.Sl.Nd.Lf
/- Rows of items in a program: what is below is kept. -/
namespace Go.By
open Go Go.RowKit
theorem below_same {w W : World} (h1 : W.heap = w.heap) (h2 : W.os = w.os) (h3 : W.tape = w.tape) (h4 : W.output = w.output) : Below w.heap.size w W := ⟨h2, h3, h4, by rw [h1]; exact Nat.le_refl _, fun k _ => by rw [h1]⟩
end Go.By
namespace Go.Proofs.YtlagllhhahomlaaGreat.Sl.Nd.Lf
open Go Go.RowKit Go.By
def Told3 (w : World) (x : Bool) (p1 p2 p3 p4 : Addr) (v1 v2 v3 v4 : Value) (e : Ending) (w' : World) : Prop := e = .returned (.bool x) ∧ w'.cell? p1 = some v1 ∧ w'.cell? p2 = some v2 ∧ w'.cell? p3 = some v3 ∧ w'.cell? p4 = some v4 ∧ Below w.heap.size w w'
def BelRel (w0 w : World) (r : Nat) (lv kv bv : Value) (o : Bool) (left made : List NIt) (k : List Nat) (i : Value) (W : World) : Prop :=
  ∃ n : Nat, n ≤ left.length ∧ i = .int .i64 n ∧ (∀ j (h : j < left.length), j < n → isAb k left[j] = true) ∧ Made w0 r lv made W ∧ W.heap[w.heap.size]? = some (.cells #[kv, bv, .bool o] 59 (0, 0)) ∧ KeptT r w W
set_option maxRecDepth 100000 in
set_option maxHeartbeats 1000000 in
theorem keepBelow_any (w0 : World) (r : Nat) (x : List NIt × List NIt) (c : NCh) (a b : Value) (w : World) (h : Rw w0 r x w) (hr : w0.heap.size ≤ r) (ha : Bytes w0 a c.k) (hb : Bytes w0 b c.v) (hs : AllShort x.1) (hm : x.2.length + x.1.length ≤ 1000000) :
    Calls Tryz.prog 143 #[.pointer (some ⟨r, 0, none⟩), .agg #[a, b, .bool c.out]] w (RwIs w0 r (step1 c x) w) := by
  obtain ⟨left, made⟩ := x
  obtain ⟨pl, cl, h1, h2⟩ := h
  dsimp only at h1 h2 hs hm
  obtain ⟨qa, ca, rfl, -⟩ := ha.any
  obtain ⟨qb, cb, rfl, -⟩ := hb.any
  have hKeep : Hid (∀ n W, n = front c.k left → Made w0 r (.slice pl left.length cl) made W → Calls Tryz.prog 146 #[.pointer (some ⟨r, 0, none⟩), .int .i64 n] W (RwIs w0 r (step1 c (left, made)) W)) := fun n W hn hW => by
    subst hn
    exact keep_any w0 r (left, made) (front c.k left) W ⟨pl, cl, h1, hW⟩ hr (front_le _ _) hs hm
  have hAb : Hid (∀ n (hn : n < left.length) (lb lo : Nat) (kv iv : Value) (W0 W : World), pl = some ⟨lb, lo, none⟩ → Made w0 r (.slice pl left.length cl) made W0 → W0.heap[w.heap.size]? = some (.cells #[.slice qa c.k.length ca, .slice qb c.v.length cb, .bool c.out] 59 (0, 0)) → W.heap = W0.heap → W.os = W0.os → W.tape = W0.tape → W.output = W0.output → Bytes w0 kv left[n].k → Bytes w0 iv left[n].v →
      CellsAt W0 lb (lo + n * 2) [kv, iv] →
      Calls Tryz.prog 173 #[.slice qa c.k.length ca, .agg #[kv, iv]] W (Told3 W0 (isAb c.k left[n]) ⟨w.heap.size, 0, none⟩ ⟨r, 0, none⟩ ⟨lb, lo + n * 2, none⟩ ⟨lb, lo + n * 2 + 1, none⟩ (.slice qa c.k.length ca) (.slice pl left.length cl) kv iv)) := fun n hn lb lo kv iv W0 W hpl hM hbx e1 e2 e3 e4 hk hv hcs => by
    have hbl := below_same e1 e2 e3 e4
    obtain ⟨mv, g1, _, g3⟩ := hM
    have hb0 := g3.trans (hbl.mono g3.size)
    refine (isAbove_any _ _ _ c.k left[n] W (ha.below hb0) (hk.below hb0) (hv.below hb0)).mono ?_
    rintro e w' ⟨rfl, rfl⟩
    have hb1 : Below W0.heap.size W0 (W.alloc (.cells #[kv, iv] 49)) := hbl.alloc (by rw [e1]; exact Nat.le_refl _) _
    have hcs' := (hcs.below hb1).two
    exact ⟨rfl, (cells_of ((hb1.block _ (Array.getElem?_eq_some_iff.1 hbx).1).trans hbx) 0), (cells_of (g1.below hb1) 0), hcs'.1, hcs'.2, hb1⟩
  have hAT : Hid (∀ n (hn : n < left.length), ∃ lb lo kv iv, pl = some ⟨lb, lo, none⟩ ∧ Bytes w0 kv left[n].k ∧ Bytes w0 iv left[n].v ∧ CellsAt w0 lb (lo + n * 2) [kv, iv]) := fun n hn => by
    obtain ⟨lb, lo, cs, e1, e2, kv, iv, rfl, e3, e4⟩ := h1.at_ n hn
    exact ⟨lb, lo, kv, iv, e1, e3, e4, e2⟩
  have hbx : Below w.heap.size w (w.alloc (.cells #[.slice qa c.k.length ca, .slice qb c.v.length cb, .bool c.out] 59)) := (Below.refl _ _).alloc (Nat.le_refl _) _
  have H0 : Hid (BelRel w0 w r (.slice pl left.length cl) (.slice qa c.k.length ca) (.slice qb c.v.length cb) c.out left made c.k (.int .i64 (0 : Nat)) (w.alloc (.cells #[.slice qa c.k.length ca, .slice qb c.v.length cb, .bool c.out] 59))) :=
    ⟨0, Nat.zero_le _, rfl, fun _ _ h => absurd h (Nat.not_lt_zero _), h2.more hbx, heap_alloc_new w _, KeptT.of_below hbx⟩
  have hL : (left.length : Int) ≤ 1000000 := by omega
  have HFR : Hid (∀ n, n ≤ left.length → (∀ j (h : j < left.length), j < n → isAb c.k left[j] = true) → (∀ h : n < left.length, isAb c.k left[n] = false) → n = front c.k left) := fun n h1 h2 h3 => (front_of h1 h2 h3).symm
  clear h1 h2 hr ha hb hs hm hbx
  obtain ⟨NL, hNL⟩ : ∃ NL, NL = left.length := ⟨_, rfl⟩
  have HNL := Lib.hid hNL
  rw [← hNL] at hL
  clear hNL
  generalize hck : c.k.length = l1 at *
  generalize hcv : c.v.length = l2 at *
  generalize hco : c.out = o at *
  clear hck hcv hco
  go_enter Tryz.func143, Tryz.ntmps143
  go_wp2
  go_loopw [4] (fun i W => BelRel w0 w r (.slice pl left.length cl) (.slice qa l1 ca) (.slice qb l2 cb) o left made c.k i W) (fun i _ => NL - (intOf i).toNat)
  case atStart => exact H0.out
  case round =>
    clear H0
    obtain ⟨n, hn, rfl, hall, hmd, hbox, hkt⟩ := hrel
    have hc0 : wr.cell? ⟨r, 0, none⟩ = some (.slice pl NL cl) := by
      obtain ⟨mv, g1, _⟩ := hmd
      rw [← HNL.out] at g1
      exact cells_of g1 0
    have hk0 := cells_of hbox 0
    simp only [List.getElem?_toArray, List.getElem?_cons_zero] at hk0
    by_cases hlt : n < NL
    · have hkl : n < left.length := by rw [← HNL.out]; exact hlt
      obtain ⟨lb, lo, kv, iv, hp, hkv, hiv, hcs⟩ := hAT.out n hkl
      have hb0 : Below w0.heap.size w0 wr := by obtain ⟨_, _, _, g⟩ := hmd; exact g
      have hcs' := hcs.below hb0
      obtain ⟨e0, e1⟩ := hcs'.two
      have HC := Lib.hid (hAb.out n hkl lb lo kv iv wr)
      have HC2 : Hid (∀ W : World, W.heap = wr.heap → W.os = wr.os → W.tape = wr.tape → W.output = wr.output → Calls Tryz.prog 173 #[.slice qa l1 ca, .agg #[kv, iv]] W (Told3 wr (isAb c.k left[n]) ⟨w.heap.size, 0, none⟩ ⟨r, 0, none⟩ ⟨lb, lo + n * 2, none⟩ ⟨lb, lo + n * 2 + 1, none⟩ (.slice qa l1 ca) (.slice pl NL cl) kv iv)) := fun W q1 q2 q3 q4 => by
        have := HC.out W hp hmd hbox q1 q2 q3 q4 hkv hiv hcs'
        rwa [← HNL.out] at this
      have HNX : Hid (isAb c.k left[n] = true → ∀ W, Below wr.heap.size wr W → BelRel w0 w r (.slice pl left.length cl) (.slice qa l1 ca) (.slice qb l2 cb) o left made c.k (.int .i64 (n + 1 : Nat)) W) := fun ht W hW =>
        ⟨n + 1, hkl, rfl, fun j hj hjn => by
          by_cases hjj : j < n
          · exact hall j hj hjj
          · obtain rfl : j = n := by omega
            exact ht, hmd.more hW, (hW.block _ (Array.getElem?_eq_some_iff.1 hbox).1).trans hbox, hkt.trans (KeptT.of_below hW)⟩
      have HKP : Hid (isAb c.k left[n] = false → ∀ W, Below wr.heap.size wr W → Calls Tryz.prog 146 #[.pointer (some ⟨r, 0, none⟩), .int .i64 n] W (RwIs w0 r (step1 c (left, made)) w)) := fun hf W hW => (hKeep.out n W (HFR.out n hn hall (fun _ => hf)) (hmd.more hW)).mono fun _ _ ⟨g1, g2, g3⟩ => ⟨g1, g2, (hkt.trans (KeptT.of_below hW)).trans g3⟩
      obtain ⟨qk, ck, rfl, -⟩ := hkv.any
      obtain ⟨qi, ci, rfl, -⟩ := hiv.any
      have HLT := Lib.hid hlt
      have hd : decide ((n : Int) < NL) = true := by simp; exact hlt
      subst hp
      generalize isAb c.k left[n] = t at *
      generalize left[n].k.length = l3 at *
      generalize left[n].v.length = l4 at *
      clear hcs hcs' hkv hiv hmd hbox hkt hall hkl hb0 HC hAb hAT hKeep HFR hn
      go_wp2
      go_region_held3 (fun w' => w'.cell? ⟨w.heap.size, 0, none⟩ = some (.slice qa l1 ca) ∧ w'.cell? ⟨r, 0, none⟩ = some (.slice (some ⟨lb, lo, none⟩) NL cl) ∧ w'.cell? ⟨lb, lo + n * 2, none⟩ = some (.slice qk l3 ck) ∧ w'.cell? ⟨lb, lo + n * 2 + 1, none⟩ = some (.slice qi l4 ci)) (go_keep)
        (first | (go_at_call 173; refine (HC2.out _ (by rfl) (by rfl) (by rfl) (by rfl)).mono ?_; rintro e w2 ⟨rfl, d0, d1, d2, d3, hb2⟩))
      have HB2 := Lib.hid hb2
      clear d0 d1 d2 d3 hb2 HC2 e0 e1 hc0 hk0
      cases t with
      | true =>
        have HR := Lib.hid (HNX.out rfl w2 HB2.out)
        clear HNX HKP
        go_wp2
        go_roundw
        case rel => exact HR.out
        case measure => simp [intOf]; have := HLT.out; omega
      | false =>
        have HK := Lib.hid (HKP.out rfl w2 HB2.out)
        clear HNX HKP
        go_wp2_with fail
        refine HK.out.mono ?_
        rintro e w3 ⟨rfl, hf⟩
        have HF := Lib.hid hf
        clear hf
        go_wp2
        go_returns
        exact ⟨rfl, HF.out⟩
    · obtain rfl : n = NL := by have := HNL.out; omega
      have HKP : Hid (∀ W, Below wr.heap.size wr W → Calls Tryz.prog 146 #[.pointer (some ⟨r, 0, none⟩), .int .i64 n] W (RwIs w0 r (step1 c (left, made)) w)) := fun W hW => (hKeep.out n W (HFR.out n hn hall (fun h => absurd h (by rw [← HNL.out]; omega))) (hmd.more hW)).mono fun _ _ ⟨g1, g2, g3⟩ => ⟨g1, g2, (hkt.trans (KeptT.of_below hW)).trans g3⟩
      have hd : decide ((n : Int) < (n : Int)) = false := by simp
      clear hmd hbox hkt hall hAb hAT hKeep HFR hn
      go_wp2
      go_quiet (fail)
      have HK := Lib.hid (HKP.out _ (below_drewN wr nq))
      clear HKP
      go_wp2_with fail
      refine HK.out.mono ?_
      rintro e w3 ⟨rfl, hf⟩
      have HF := Lib.hid hf
      clear hf
      go_wp2
      go_returns
      exact ⟨rfl, HF.out⟩
set_option maxRecDepth 100000 in
set_option maxHeartbeats 1000000 in
theorem passOver_any (w0 : World) (r : Nat) (x : List NIt × List NIt) (c : NCh) (a b : Value) (w : World) (h : Rw w0 r x w) (hr : w0.heap.size ≤ r) (ha : Bytes w0 a c.k) (hb : Bytes w0 b c.v) (hs : x.1.length ≤ 1000000) :
    Calls Tryz.prog 144 #[.pointer (some ⟨r, 0, none⟩), .agg #[a, b, .bool c.out]] w (RwIs w0 r (step2 c x) w) := by
  obtain ⟨left, made⟩ := x
  obtain ⟨pl, cl, h1, h2⟩ := h
  dsimp only at h1 h2 hs
  obtain ⟨qa, ca, rfl, -⟩ := ha.any
  obtain ⟨qb, cb, rfl, -⟩ := hb.any
  obtain ⟨W, hW⟩ : ∃ W, W = w.alloc (.cells #[.slice qa c.k.length ca, .slice qb c.v.length cb, .bool c.out] 59) := ⟨_, rfl⟩
  have hbx : Below w.heap.size w W := by rw [hW]; exact (Below.refl _ _).alloc (Nat.le_refl _) _
  have hbox : W.heap[w.heap.size]? = some (.cells #[.slice qa c.k.length ca, .slice qb c.v.length cb, .bool c.out] 59 (0, 0)) := by rw [hW]; exact heap_alloc_new w _
  have hmd := h2.more hbx
  have hc0 : W.cell? ⟨r, 0, none⟩ = some (.slice pl left.length cl) := by
    obtain ⟨mv, g1, _⟩ := hmd
    exact cells_of g1 0
  have hk0 := cells_of hbox 0
  simp only [List.getElem?_toArray, List.getElem?_cons_zero] at hk0
  have HW := Lib.hid hW
  cases left with
  | nil =>
    have HF : Hid (∀ W', Below W.heap.size W W' → RwIs w0 r (step2 c ([], made)) w (.returned (.tuple #[])) W') := fun W' hb => ⟨rfl, ⟨pl, cl, h1, hmd.more hb⟩, (KeptT.of_below hbx).trans (KeptT.of_below hb)⟩
    clear h1 h2 hr ha hb hs hbx hbox hmd hW
    simp only [List.length_nil] at hc0
    generalize c.k.length = l1 at *
    generalize c.v.length = l2 at *
    generalize c.out = o at *
    have hd : decide ((0 : Int) < 0) = false := by decide
    go_enter Tryz.func144, Tryz.ntmps144
    go_wp2
    rw [← HW.out]
    go_quiet (fail)
    have HX := Lib.hid (HF.out _ (below_drewN W nq))
    clear HF
    go_wp2
    go_returns
    exact HX.out
  | cons i left =>
    obtain ⟨lb, lo, cs, rfl, hcs, kv, iv, rfl, hkv, hiv⟩ := h1.at_ 0 (by simp)
    simp only [Nat.zero_mul, Nat.add_zero, List.getElem_cons_zero] at hcs hkv hiv
    have hb0 : Below w0.heap.size w0 W := by obtain ⟨_, _, _, g⟩ := hmd; exact g
    have hcs' := hcs.below hb0
    obtain ⟨e0, e1⟩ := hcs'.two
    obtain ⟨q, cq, hrun, hq⟩ := h1.from_ itT 1 1 rfl (by simp)
    have HC : Hid (∀ W1 : World, W1.heap = W.heap → W1.os = W.os → W1.tape = W.tape → W1.output = W.output → Calls Tryz.prog 174 #[.slice qa c.k.length ca, .agg #[kv, iv]] W1 (Told3 W (decide (c.k = i.k)) ⟨w.heap.size, 0, none⟩ ⟨r, 0, none⟩ ⟨lb, lo, none⟩ ⟨lb, lo + 1, none⟩ (.slice qa c.k.length ca) (.slice (some ⟨lb, lo, none⟩) (i :: left).length cl) kv iv)) := fun W1 q1 q2 q3 q4 => by
      have hbl := below_same q1 q2 q3 q4
      obtain ⟨mv, g1, _, g3⟩ := hmd
      have hb0 := g3.trans (hbl.mono g3.size)
      refine (isOf_any _ _ _ c.k i W1 (ha.below hb0) (hkv.below hb0) (hiv.below hb0)).mono ?_
      rintro e w' ⟨rfl, rfl⟩
      have hb1 : Below W.heap.size W (W1.alloc (.cells #[kv, iv] 49)) := hbl.alloc (by rw [q1]; exact Nat.le_refl _) _
      have hcs2 := (hcs'.below hb1).two
      exact ⟨rfl, (cells_of ((hb1.block _ (Array.getElem?_eq_some_iff.1 hbox).1).trans hbox) 0), (cells_of (g1.below hb1) 0), hcs2.1, hcs2.2, hb1⟩
    have HT : Hid (decide (c.k = i.k) = true → ∀ W', Below W.heap.size W W' → W'.cell? ⟨r, 0, none⟩ = some (.slice (some ⟨lb, lo, none⟩) (i :: left).length cl) ∧ W'.frozen? ⟨r, 0, none⟩ = false ∧ RwIs w0 r (step2 c (i :: left, made)) w (.returned (.tuple #[])) (W'.setCell ⟨r, 0, none⟩ (.slice q left.length cq))) := fun ht W' hb => by
      have hm' := hmd.more hb
      have e : step2 c (i :: left, made) = (left, made) := by
        show (passed c.k (i :: left), made) = _
        rw [passed, if_pos (of_decide_eq_true ht)]
      rw [e]
      refine ⟨?_, ?_, rfl, ⟨q, cq, hq, hm'.leave hr _⟩, ((KeptT.of_below hbx).trans (KeptT.of_below hb)).trans (KeptT.set r 0 W' _)⟩
      · obtain ⟨mv, g1, _⟩ := hm'
        exact cells_of g1 0
      · obtain ⟨mv, g1, _⟩ := hm'
        exact free_of g1 0
    have HF : Hid (decide (c.k = i.k) = false → ∀ W', Below W.heap.size W W' → RwIs w0 r (step2 c (i :: left, made)) w (.returned (.tuple #[])) W') := fun ht W' hb => by
      have e : step2 c (i :: left, made) = (i :: left, made) := by
        show (passed c.k (i :: left), made) = _
        rw [passed, if_neg (of_decide_eq_false ht)]
      rw [e]
      exact ⟨rfl, ⟨_, cl, h1, hmd.more hb⟩, (KeptT.of_below hbx).trans (KeptT.of_below hb)⟩
    obtain ⟨qk, ck, rfl, -⟩ := hkv.any
    obtain ⟨qi, ci, rfl, -⟩ := hiv.any
    have hL : ((i :: left).length : Int) ≤ 1000000 := by omega
    have hd : decide (0 < (i :: left).length) = true := by simp
    have hd0 : (0 : Int) < ((i :: left).length : Nat) := by rw [List.length_cons]; omega
    have hd1 : 0 < (i :: left).length := by simp
    have hrun' : ∀ w0 : World, (Instr.slice 35 (.slice (some ⟨lb, lo, none⟩) (i :: left).length cl) (some (.int .i64 1)) none none).run Tryz.prog w0 = .ok (.slice q left.length cq) w0 := hrun
    clear h1 h2 hr ha hb hs hbx hbox hmd hW hcs hkv hiv hb0 hcs' hq hrun
    generalize decide (c.k = i.k) = t at *
    generalize (i :: left).length = NL at *
    generalize c.k.length = l1 at *
    generalize c.v.length = l2 at *
    generalize c.out = o at *
    generalize i.k.length = l3 at *
    generalize i.v.length = l4 at *
    go_enter Tryz.func144, Tryz.ntmps144
    go_wp2
    rw [← HW.out]
    go_region_held3 (fun w' => w'.cell? ⟨w.heap.size, 0, none⟩ = some (.slice qa l1 ca) ∧ w'.cell? ⟨r, 0, none⟩ = some (.slice (some ⟨lb, lo, none⟩) NL cl) ∧ w'.cell? ⟨lb, lo, none⟩ = some (.slice qk l3 ck) ∧ w'.cell? ⟨lb, lo + 1, none⟩ = some (.slice qi l4 ci)) (go_keep)
      (first | (go_at_call 174; refine (HC.out _ (by rfl) (by rfl) (by rfl) (by rfl)).mono ?_; rintro e w2 ⟨rfl, d0, d1, d2, d3, hb2⟩))
    have HB2 := Lib.hid hb2
    clear d0 d1 d2 d3 hb2 HC e0 e1 hc0 hk0 HW
    cases t with
    | true =>
      obtain ⟨hc1, hf1, hx⟩ := HT.out rfl w2 HB2.out
      have HX := Lib.hid hx
      clear HT HF hx
      go_wp2
      go_returns
      exact HX.out
    | false =>
      have HX := Lib.hid (HF.out rfl w2 HB2.out)
      clear HT HF hrun'
      go_wp2
      go_returns
      exact HX.out
set_option maxRecDepth 100000 in
theorem put_any (w0 : World) (r : Nat) (x : List NIt × List NIt) (c : NCh) (a b : Value) (w : World) (h : Rw w0 r x w) (hr : w0.heap.size ≤ r) (ha : Bytes w0 a c.k) (hb : Bytes w0 b c.v) (hs : ShortIt ⟨c.k, c.v⟩) (hm : x.2.length ≤ 1000000) :
    Calls Tryz.prog 145 #[.pointer (some ⟨r, 0, none⟩), .agg #[a, b, .bool c.out]] w (RwIs w0 r (step3 c x) w) := by
  obtain ⟨left, made⟩ := x
  obtain ⟨pl, cl, h1, h2⟩ := h
  dsimp only at h1 h2 hm
  have hbb := (Below.refl w.heap.size w).alloc (Nat.le_refl _) (.cells #[a, b, .bool c.out] 59)
  have hbx := h2.more hbb
  have HA := Lib.hid (add_any w0 r _ made ⟨c.k, c.v⟩ a b _ hbx hr ha hb hs hm)
  have HT : Hid (c.out = true → RwIs w0 r (step3 c (left, made)) w (.returned (.tuple #[])) (w.alloc (.cells #[a, b, .bool c.out] 59))) := fun ho => by
    have e : step3 c (left, made) = (left, made) := by
      unfold step3 putsCh
      rw [if_pos ho, List.append_nil]
    rw [e]
    exact ⟨rfl, ⟨pl, cl, h1, hbx⟩, KeptT.of_below hbb⟩
  have HF : Hid (c.out = false → ∀ e W, MadeIs w0 r (.slice pl left.length cl) (made ++ [⟨c.k, c.v⟩]) (w.alloc (.cells #[a, b, .bool c.out] 59)) e W → RwIs w0 r (step3 c (left, made)) w e W) := fun ho e W ⟨h3, h4, h5⟩ => by
    have e : step3 c (left, made) = (left, made ++ [⟨c.k, c.v⟩]) := by
      unfold step3 putsCh
      rw [ho]
      rfl
    rw [e]
    exact ⟨h3, ⟨pl, cl, h1, h4⟩, (KeptT.of_below hbb).trans h5⟩
  obtain ⟨qa, ca, rfl, -⟩ := ha.any
  obtain ⟨qb, cb, rfl, -⟩ := hb.any
  clear h1 h2 hr ha hb hs hm hbx hbb
  generalize c.out = o at *
  generalize c.k.length = l1 at *
  generalize c.v.length = l2 at *
  cases o with
  | true =>
    go_enter Tryz.func145, Tryz.ntmps145
    go_wp2
    go_returns
    exact HT.out (by trivial)
  | false =>
    go_enter Tryz.func145, Tryz.ntmps145
    go_wp2_with fail
    refine HA.out.mono ?_
    rintro e w3 ⟨rfl, hf⟩
    have HX := Lib.hid (HF.out (by trivial) _ w3 ⟨rfl, hf⟩)
    clear hf HF HA HT
    go_wp2
    go_returns
    exact HX.out
end Go.Proofs.YtlagllhhahomlaaGreat.Sl.Nd.Lf
/- Rows of changes in a program: Rising. -/
namespace Go.By
open Go Go.RowKit
def lastOf : List Nat → List NCh → List Nat
  | p, [] => p
  | _, c :: r => lastOf c.k r
theorem rises_snoc : ∀ (l : List NCh) (p : List Nat) (c : NCh), risesCh p (l ++ [c]) = (risesCh p l && okCh (lastOf p l) c)
  | [], p, c => by simp [risesCh, lastOf]
  | d :: l, p, c => by
    rw [List.cons_append, risesCh, rises_snoc l d.k c, risesCh, lastOf, Bool.and_assoc]
theorem lastOf_snoc : ∀ (l : List NCh) (p : List Nat) (c : NCh), lastOf p (l ++ [c]) = c.k
  | [], _, _ => rfl
  | d :: l, _, c => by rw [List.cons_append, lastOf, lastOf_snoc l d.k c]
theorem rises_app : ∀ (l m : List NCh) (p : List Nat), risesCh p (l ++ m) = (risesCh p l && risesCh (lastOf p l) m)
  | [], m, p => by simp [risesCh, lastOf]
  | d :: l, m, p => by rw [List.cons_append, risesCh, rises_app l m d.k, risesCh, lastOf, Bool.and_assoc]
theorem rises_bad {l : List NCh} {k : Nat} (h : k < l.length) {p : List Nat} (hb : okCh (lastOf p (l.take k)) l[k] = false) : risesCh p l = false := by
  have e : l = l.take (k + 1) ++ l.drop (k + 1) := (List.take_append_drop _ _).symm
  rw [e, rises_app, List.take_succ_eq_append_getElem h, rises_snoc, hb]
  simp
end Go.By
namespace Go.Proofs.YtlagllhhahomlaaGreat.Sl.Nd.Lf
open Go Go.RowKit Go.By
set_option maxRecDepth 100000 in
theorem mostVal_any (a b : Value) (c : NCh) (w : World) (ha : Bytes w a c.k) (hb : Bytes w b c.v) :
    Calls Tryz.prog 111 #[.agg #[a, b, .bool c.out]] w fun e w' => e = .returned (.int .i64 (mostVal c : Nat)) ∧ w' = w.alloc (.cells #[a, b, .bool c.out] 59) := by
  obtain ⟨qa, ca, rfl, -⟩ := ha.any
  obtain ⟨qb, cb, rfl, -⟩ := hb.any
  have HE : Hid (mostVal c = if c.out = true then 0 else 120) := rfl
  generalize mostVal c = m at *
  generalize c.out = o at *
  generalize c.k.length = l1 at *
  generalize c.v.length = l2 at *
  clear ha hb
  cases o with
  | true =>
    go_enter Tryz.func111, Tryz.ntmps111
    go_wp2
    go_ret
    exact ⟨by rw [HE.out]; rfl, rfl⟩
  | false =>
    go_enter Tryz.func111, Tryz.ntmps111
    go_wp2
    go_ret
    exact ⟨by rw [HE.out]; rfl, rfl⟩
def RiAt (w : World) (r : Nat) (v : Value) : Prop := w.heap[r]? = some (.cells #[v] 162 (0, 0))
def Breaks (w : World) (r : Nat) (x : Bool) (a : Value) (e : Ending) (w' : World) : Prop := e = .returned (.bool x) ∧ RiAt w' r a ∧ Only r w w'
theorem okCh_less {p : List Nat} {c : NCh} (h : decide (cmpN p c.k < 0) = false) (hp : ∀ x ∈ p, x < 256) (hk : ∀ x ∈ c.k, x < 256) : okCh p c = false := by
  unfold okCh
  rw [← cmpN_less hp hk, h]
  rfl
theorem okCh_long {p : List Nat} {c : NCh} (h : ¬ c.k.length ≤ 40) : okCh p c = false := by
  unfold okCh
  rw [decide_eq_false h]
  simp
theorem okCh_val {p : List Nat} {c : NCh} (h : decide (cmpN p c.k < 0) = true) (hp : ∀ x ∈ p, x < 256) (hk : ∀ x ∈ c.k, x < 256) (hl : c.k.length ≤ 40) : okCh p c = decide (c.v.length ≤ mostVal c) := by
  unfold okCh
  rw [← cmpN_less hp hk, h, decide_eq_true hl]
  simp
theorem Bytes.only {w w' : World} {r : Nat} {q : Option Addr} {n c : Nat} {v : Value} {l : List Nat} (h : Bytes w v l) (hr : RiAt w r (.slice q n c)) (ho : Only r w w') : Bytes w' v l := by
  refine ⟨?_, h.small, h.short⟩
  rcases h.out with h1 | h1 | ⟨b, o, cap, rfl, hc, hcell⟩
  · exact .inl h1
  · exact .inr (.inl h1)
  · refine .inr (.inr ⟨b, o, cap, rfl, hc, fun i hi => ?_⟩)
    have h0 := hcell i hi
    have hlt : b < w.heap.size := block_lt_of_cell h0
    have hne : b ≠ r := by
      rintro rfl
      rw [cells_of hr] at h0
      cases hx : o + i with
      | zero => rw [hx] at h0; simp at h0
      | succ j => rw [hx] at h0; simp at h0
    exact (World.cell?_of_block (a := ⟨b, o + i, none⟩) (ho.block b hlt hne)).trans h0
set_option maxRecDepth 100000 in
set_option maxHeartbeats 1000000 in
theorem breaksAt_any (r : Nat) (lv a b : Value) (p : List Nat) (c : NCh) (w : World) (h : RiAt w r lv) (hl : Bytes w lv p) (ha : Bytes w a c.k) (hb : Bytes w b c.v) :
    Calls Tryz.prog 83 #[.pointer (some ⟨r, 0, none⟩), .agg #[a, b, .bool c.out]] w (Breaks w r (!okCh p c) a) := by
  obtain ⟨W, hW⟩ : ∃ W, W = w.alloc (.cells #[a, b, .bool c.out] 59) := ⟨_, rfl⟩
  have hrl : r < w.heap.size := (Array.getElem?_eq_some_iff.1 h).1
  have hbW : Below w.heap.size w W := by rw [hW]; exact (Below.refl _ _).alloc (Nat.le_refl _) _
  have hbox : W.heap[w.heap.size]? = some (.cells #[a, b, .bool c.out] 59 (0, 0)) := by rw [hW]; exact heap_alloc_new w _
  have hri : RiAt W r lv := (hbW.block _ hrl).trans h
  have HC := Lib.hid (fun nq => compare_any lv a p c.k (W.drewN nq) (bytes_drewN (hl.below hbW) nq) (bytes_drewN (ha.below hbW) nq))
  have r0 := cells_of hri 0
  have k0 := cells_of hbox 0; have k1 := cells_of hbox 1; have k2 := cells_of hbox 2
  have fr0 := free_of hri 0
  simp only [List.getElem?_toArray, List.getElem?_cons_zero, List.getElem?_cons_succ] at r0 k0 k1 k2
  have hBA := fun nq => (bytes_drewN (ha.below hbW) nq); have hBB := fun nq => (bytes_drewN (hb.below hbW) nq)
  obtain ⟨ql, cl, rfl, -⟩ := hl.any
  have HS : Hid (∀ nq, RiAt ((W.drewN nq).setCell ⟨r, 0, none⟩ a) r a ∧ Only r w ((W.drewN nq).setCell ⟨r, 0, none⟩ a) ∧ ((W.drewN nq).setCell ⟨r, 0, none⟩ a).heap[w.heap.size]? = some (.cells #[a, b, .bool c.out] 59 (0, 0)) ∧ Bytes ((W.drewN nq).setCell ⟨r, 0, none⟩ a) a c.k ∧ Bytes ((W.drewN nq).setCell ⟨r, 0, none⟩ a) b c.v) := fun nq =>
    have hr' : RiAt (W.drewN nq) r (.slice ql p.length cl) := hri
    have ho : Only r (W.drewN nq) ((W.drewN nq).setCell ⟨r, 0, none⟩ a) := Only.set r 0 _ a
    ⟨set_heap hr' 0 a, ((Only.of_below hbW).trans (Only.drewN r W nq)).trans ho, (ho.block _ (Array.getElem?_eq_some_iff.1 hbox).1 (by omega)).trans hbox, Bytes.only (hBA nq) hr' ho, Bytes.only (hBB nq) hr' ho⟩
  have HLE := Lib.hid (fun h => okCh_less (p := p) (c := c) h hl.small ha.small)
  have HLO := Lib.hid (fun h => okCh_long (p := p) (c := c) h)
  have HVA := Lib.hid (fun h => okCh_val (p := p) (c := c) h hl.small ha.small)
  obtain ⟨qa, ca, rfl, -⟩ := ha.any
  obtain ⟨qb, cb, rfl, -⟩ := hb.any
  have hM : (mostVal c : Int) ≤ 120 := by unfold mostVal; split <;> omega
  have HMV : Hid (∀ w1 : World, Bytes w1 (.slice qa c.k.length ca) c.k → Bytes w1 (.slice qb c.v.length cb) c.v → Calls Tryz.prog 111 #[.agg #[.slice qa c.k.length ca, .slice qb c.v.length cb, .bool c.out]] w1 fun e w' => e = .returned (.int .i64 (mostVal c : Nat)) ∧ w' = w1.alloc (.cells #[.slice qa c.k.length ca, .slice qb c.v.length cb, .bool c.out] 59)) := fun w1 h1 h2 => mostVal_any _ _ c w1 h1 h2
  have hl9 : (c.v.length : Int) ≤ 9223372036854775807 := by have := hb.short; unfold maxLen at this; omega
  have hne : w.heap.size ≠ r := by omega
  have HW := Lib.hid hW
  clear h hl ha hb hbW hbox hri hW hBA hBB hrl
  generalize okCh p c = ok at *
  generalize cmpN p c.k = x at *
  generalize mostVal c = m at *
  generalize c.out = o at *
  generalize p.length = l0 at *
  have HSK : Hid (∀ w1 : World, Bytes w1 (.slice qa c.k.length ca) c.k → (c.k.length ≤ 40 ∨ ¬ c.k.length ≤ 40)) := fun _ _ => Classical.em _
  go_enter Tryz.func83, Tryz.ntmps83
  go_wp2
  rw [← HW.out]
  go_quiet ((go_at_call 81; exact Calls.quiet_of_same (HC.out _)))
  obtain ⟨s1, s2, s3, s4, s5⟩ := HS.out nq
  have S1 := Lib.hid s1; have S2 := Lib.hid s2; have S3 := Lib.hid s3; have S4 := Lib.hid s4; have S5 := Lib.hid s5
  clear s1 s2 s3 s4 s5 HS HC HSK
  obtain ⟨W2, hW2⟩ : ∃ W2, W2 = (W.drewN nq).setCell ⟨r, 0, none⟩ (.slice qa c.k.length ca) := ⟨_, rfl⟩
  rw [← hW2] at S1 S2 S3 S4 S5
  have HW2 := Lib.hid hW2
  have g0 := cells_of S3.out 0; have g1 := cells_of S3.out 1; have g2 := cells_of S3.out 2
  simp only [List.getElem?_toArray, List.getElem?_cons_zero, List.getElem?_cons_succ] at g0 g1 g2
  have HCALL : Hid (∀ w1 : World, w1.heap = W2.heap → w1.os = W2.os → w1.tape = W2.tape → w1.output = W2.output → Calls Tryz.prog 111 #[.agg #[.slice qa c.k.length ca, .slice qb c.v.length cb, .bool o]] w1 fun e w' => e = .returned (.int .i64 (m : Nat)) ∧ w'.cell? ⟨w.heap.size, 0, none⟩ = some (.slice qa c.k.length ca) ∧ w'.cell? ⟨w.heap.size, 1, none⟩ = some (.slice qb c.v.length cb) ∧ w'.cell? ⟨w.heap.size, 2, none⟩ = some (.bool o) ∧ RiAt w' r (.slice qa c.k.length ca) ∧ Only r w w') := fun w1 e1 e2 e3 e4 => by
    have hb := below_same e1 e2 e3 e4
    refine (HMV.out w1 (S4.out.below hb) (S5.out.below hb)).mono ?_
    rintro e w' ⟨rfl, rfl⟩
    have hb2 : Below W2.heap.size W2 (w1.alloc (.cells #[.slice qa c.k.length ca, .slice qb c.v.length cb, .bool o] 59)) := hb.alloc hb.size _
    have h3 := (hb2.block _ (Array.getElem?_eq_some_iff.1 S3.out).1).trans S3.out
    exact ⟨rfl, cells_of h3 0, cells_of h3 1, cells_of h3 2, (hb2.block _ (Array.getElem?_eq_some_iff.1 S1.out).1).trans S1.out, S2.out.trans (Only.of_below hb2)⟩
  clear hW2 HMV S3 S4 S5
  generalize c.k.length = l1 at *
  generalize c.v.length = l2 at *
  cases hx : decide (x < 0) with
  | false =>
    have E := Lib.hid (HLE.out hx)
    clear hx HLE HLO HVA
    go_wp2
    rw [← HW2.out]
    go_quiet (fail)
    go_wp2
    go_ret
    exact ⟨by rw [E.out]; rfl, S1.out, S2.out.trans (Only.drewN r W2 _)⟩
  | true =>
    by_cases hl : l1 ≤ 40
    · have E := Lib.hid (HVA.out hx hl)
      have hd : decide ((40 : Int) < l1) = false := by simp; omega
      clear hx HLE HLO HVA
      go_wp2
      rw [← HW2.out]
      go_region_held3 (fun w' => w'.cell? ⟨w.heap.size, 0, none⟩ = some (.slice qa l1 ca) ∧ w'.cell? ⟨w.heap.size, 1, none⟩ = some (.slice qb l2 cb) ∧ w'.cell? ⟨w.heap.size, 2, none⟩ = some (.bool o)) (go_keep)
        (first | (go_at_call 111; refine (HCALL.out _ (by rfl) (by rfl) (by rfl) (by rfl)).mono ?_; rintro e w2 ⟨rfl, d0, d1, d2, dr, dO⟩))
      have E2 : Hid (decide (m < l2) = !ok) := by unfold Hid; rw [E.out]; by_cases h : l2 ≤ m <;> simp [h] <;> omega
      have HR := Lib.hid dr; have HO := Lib.hid dO
      clear d0 d1 d2 dr dO
      go_wp2
      go_ret
      exact ⟨by rw [← E2.out]; rfl, HR.out, HO.out⟩
    · have E := Lib.hid (HLO.out hl)
      have hd : decide ((40 : Int) < l1) = true := by simp; omega
      clear hx HLE HLO HVA
      go_wp2
      rw [← HW2.out]
      go_quiet (fail)
      go_wp2
      go_ret
      exact ⟨by rw [E.out]; rfl, S1.out, S2.out.trans (Only.drewN r W2 _)⟩
def IdxRel (w : World) (r : Nat) (l : List NCh) (i : Value) (W : World) : Prop :=
  ∃ (k : Nat) (q : Option Addr) (n c : Nat), k ≤ l.length ∧ i = .int .i64 k ∧ risesCh [] (l.take k) = true ∧ RiAt W r (.slice q n c) ∧ Only r w W ∧ Bytes W (.slice q n c) (lastOf [] (l.take k))
def IdxTold (w : World) (r : Nat) (l : List NCh) (e : Ending) (w' : World) : Prop := ∃ x : Int, e = .returned (.int .i64 x) ∧ decide (0 ≤ x) = (!risesCh [] l) ∧ Only r w w'
set_option maxRecDepth 100000 in
set_option maxHeartbeats 1000000 in
theorem indexFunc_any (w0 : World) (p : Option Addr) (cap : Nat) (l : List NCh) (r : Nat) (w : World) (hl : RowAt KChange w0 p cap l) (hb : Below w0.heap.size w0 w) (hr : w0.heap.size ≤ r) (hri : RiAt w r (.slice none 0 0)) :
    Calls Tryz.prog 110 #[.slice p l.length cap, .func (.func 83) #[.pointer (some ⟨r, 0, none⟩)] #[]] w (IdxTold w r l) := by
  have H0 : Hid (IdxRel w r l (.int .i64 (0 : Nat)) w) := ⟨0, none, 0, 0, Nat.zero_le _, rfl, rfl, hri, Only.refl _ _, Bytes.nil _⟩
  have hN9 : (l.length : Int) ≤ 9223372036854775807 := by have := hl.le; have := hl.most; unfold maxLen at this; omega
  have HL := Lib.hid hl; have HB := Lib.hid hb; have HR := Lib.hid hr
  obtain ⟨N, hN⟩ : ∃ N, N = l.length := ⟨_, rfl⟩
  have HN := Lib.hid hN
  rw [← hN] at hN9 ⊢
  clear hl hb hr hri hN
  go_enter Tryz.func110, Tryz.ntmps110
  go_wp2
  go_loopw [8] (fun i W => IdxRel w r l i W) (fun i _ => N - (intOf i).toNat)
  case atStart => exact H0.out
  case round =>
    clear H0
    obtain ⟨k, q, n, c, hk, rfl, hrise, hri, ho, hby⟩ := hrel
    by_cases hlt : k < N
    · have hkl : k < l.length := by rw [← HN.out]; exact hlt
      have hbr : Below w0.heap.size w0 wr := Below.only HB.out HR.out HB.out.size ho
      obtain ⟨lb, lo, cs, rfl, hcs, a, b, rfl, ha, hbv⟩ := HL.out.at_ k hkl
      obtain ⟨e0, e1, e2⟩ := (hcs.below hbr).three
      simp only [KChange] at e0 e1 e2
      have HC := Lib.hid (breaksAt_any r _ a b _ l[k] wr hri hby (ha.below hbr) (hbv.below hbr))
      have hsn : risesCh [] (l.take (k + 1)) = okCh (lastOf [] (l.take k)) l[k] := by
        rw [List.take_succ_eq_append_getElem hkl, rises_snoc, hrise]; rfl
      have hls : lastOf [] (l.take (k + 1)) = l[k].k := by rw [List.take_succ_eq_append_getElem hkl, lastOf_snoc]
      have HBAD : Hid (okCh (lastOf [] (l.take k)) l[k] = false → risesCh [] l = false) := fun h => rises_bad hkl h
      have HBY : Hid (∀ W, Below w0.heap.size w0 W → Bytes W a l[k].k) := fun W hW => ha.below hW
      obtain ⟨qa, ca, rfl, -⟩ := ha.any
      obtain ⟨qb, cb, rfl, -⟩ := hbv.any
      have HNX : Hid (okCh (lastOf [] (l.take k)) l[k] = true → ∀ W, RiAt W r (.slice qa l[k].k.length ca) → Only r wr W → IdxRel w r l (.int .i64 (k + 1 : Nat)) W) := fun h W h1 h2 =>
        ⟨k + 1, qa, _, ca, hkl, rfl, by rw [hsn]; exact h, h1, ho.trans h2, by rw [hls]; exact HBY.out W (Below.only hbr HR.out hbr.size h2)⟩
      have HO := Lib.hid ho
      have HLT := Lib.hid hlt
      generalize okCh (lastOf [] (l.take k)) l[k] = ok at *
      generalize l[k].k.length = l1 at *
      generalize l[k].v.length = l2 at *
      generalize l[k].out = o at *
      clear ha hbv hcs hri hby hrise hsn hls hbr HBY hkl ho
      go_wp2_with fail
      refine HC.out.mono ?_
      rintro e w2 ⟨rfl, hr2, ho2⟩
      cases ok with
      | true =>
        have HX := Lib.hid (HNX.out rfl w2 hr2 ho2)
        clear HC HNX HBAD hr2 ho2
        go_wp2
        go_roundw
        case rel => exact HX.out
        case measure => simp [intOf]; have := HLT.out; omega
      | false =>
        have E := Lib.hid (HBAD.out rfl)
        have HX := Lib.hid (HO.out.trans ho2)
        clear HC HNX HBAD hr2 ho2
        go_wp2
        go_ret
        exact ⟨_, rfl, by rw [E.out]; simp, HX.out⟩
    · obtain rfl : k = N := by have := HN.out; omega
      rw [List.take_of_length_le (by rw [← HN.out]; exact Nat.le_refl _)] at hrise
      have E := Lib.hid hrise
      have HX := Lib.hid ho
      clear hrise hri ho hby
      go_wp2
      go_ret
      exact ⟨_, rfl, by rw [E.out]; rfl, HX.out⟩
set_option maxRecDepth 100000 in
theorem containsFunc_any (w0 : World) (p : Option Addr) (cap : Nat) (l : List NCh) (r : Nat) (w : World) (hl : RowAt KChange w0 p cap l) (hb : Below w0.heap.size w0 w) (hr : w0.heap.size ≤ r) (hri : RiAt w r (.slice none 0 0)) :
    Calls Tryz.prog 82 #[.slice p l.length cap, .func (.func 83) #[.pointer (some ⟨r, 0, none⟩)] #[]] w fun e w' => e = .returned (.bool (!risesCh [] l)) ∧ Only r w w' := by
  have HC := Lib.hid (indexFunc_any w0 p cap l r w hl hb hr hri)
  generalize l.length = N at *
  clear hl hb hr hri
  go_enter Tryz.func82, Tryz.ntmps82
  go_wp2_with fail
  refine HC.out.mono ?_
  rintro e w2 ⟨x, rfl, hx, ho⟩
  have HX := Lib.hid hx; have HO := Lib.hid ho
  clear hx ho HC
  go_wp2
  go_ret
  exact ⟨by rw [← HX.out]; rfl, HO.out⟩
set_option maxRecDepth 100000 in
theorem rising_any (p : Option Addr) (cap : Nat) (l : List NCh) (w : World) (hl : RowAt KChange w p cap l) :
    Calls Tryz.prog 46 #[.slice p l.length cap] w fun e w' => e = .returned (.bool (risesCh [] l)) ∧ Below w.heap.size w w' := by
  have hb : Below w.heap.size w (w.alloc (.cells #[.slice none 0 0] 162)) := (Below.refl _ _).alloc (Nat.le_refl _) _
  have HC := Lib.hid (containsFunc_any w p cap l w.heap.size (w.alloc (.cells #[.slice none 0 0] 162)) hl hb (Nat.le_refl _) (heap_alloc_new w _))
  have HB := Lib.hid hb
  generalize l.length = N at *
  clear hl hb
  go_enter Tryz.func46, Tryz.ntmps46
  go_wp2_with fail
  refine HC.out.mono ?_
  rintro e w2 ⟨rfl, ho⟩
  have HO : Hid (Below w.heap.size w w2) := Below.only HB.out (Nat.le_refl _) HB.out.size ho
  clear ho HC
  go_wp2
  go_ret
  exact ⟨by simp, HO.out⟩
end Go.Proofs.YtlagllhhahomlaaGreat.Sl.Nd.Lf
