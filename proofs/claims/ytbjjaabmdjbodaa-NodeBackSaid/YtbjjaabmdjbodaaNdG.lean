/- Nodes in a program: numbers and texts, laid. -/
import Derived.Test.YtbjjaabmdjbodaaNdF
import Derived.Test.YtbjjaabmdjbodaaGenZ
namespace Go.By
open Go Go.RowKit

/-- A row that is appended to: only its own block turned, and what it has become is it, or new. -/
structure Grows (w w' : World) (v v' : Value) : Prop where
  by_ : w.grownBy w' v.ownBlock
  new : v'.ownBlock = v.ownBlock ∨ ∃ g, v'.ownBlock = some g ∧ w.heap.size ≤ g
theorem Grows.refl (w : World) (v : Value) : Grows w w v v := ⟨World.grownBy.refl _ _, .inl rfl⟩
theorem Grows.trans {w w1 w2 : World} {v v1 v2 : Value} (h : Grows w w1 v v1) (k : Grows w1 w2 v1 v2) : Grows w w2 v v2 := by
  refine ⟨⟨k.by_.os.trans h.by_.os, k.by_.tape.trans h.by_.tape, k.by_.output.trans h.by_.output, Nat.le_trans h.by_.size k.by_.size, fun j hj hne => ?_⟩, ?_⟩
  · refine (k.by_.block j (Nat.lt_of_lt_of_le hj h.by_.size) (fun e => ?_)).trans (h.by_.block j hj hne)
    rcases h.new with h1 | ⟨g, h1, h2⟩
    · exact hne (by rw [e, h1])
    · rw [h1] at e
      have := Option.some.inj e
      omega
  · rcases k.new with h1 | ⟨g, h1, h2⟩
    · rw [h1]; exact h.new
    · exact .inr ⟨g, h1, Nat.le_trans h.by_.size h2⟩
theorem Grows.alloc (w : World) (v : Value) (o : Obj) : Grows w (w.alloc o) v v := ⟨World.grownBy_alloc _ _ _, .inl rfl⟩
theorem Grows.below {base : Nat} {w0 w w' : World} {v v' : Value} (h : Grows w w' v v') (hb : Below base w0 w) (hw : base ≤ w.heap.size) (hv : ∀ k, v.ownBlock = some k → base ≤ k) : Below base w0 w' :=
  hb.grown h.by_ hw hv
/-- What lies elsewhere is as it was. -/
theorem Grows.block {w w' : World} {v v' : Value} (h : Grows w w' v v') {k : Nat} (hk : k < w.heap.size) (hne : v.ownBlock ≠ some k) : w'.heap[k]? = w.heap[k]? := h.by_.block k hk (fun e => hne e.symm)

/-- append(s, x...), s one's own, x a row of parts. -/
theorem run_append_grows {P : Program} {w : World} (ty : TypeId) {t e : TypeId} {i : TypeInfo} {z : Value} {size bytes : Nat} (ht : P.underlying t = some (.slice e)) (hi : P.info? e = some i) (hz : i.zero = some z)
    (hsize : i.size = size) (hby : i.bytes = bytes) (hzs : z.cells.size = size) (hsz : 0 < size) (base : Nat) (v : Value) (n : Nat) (xs : List Value) (hown : w.ownsRow base e size v n xs)
    (b o m c : Nat) (news : List Value) (hl : news.length = m * size) (hnews : ∀ j u, news[j]? = some u → w.cell? ⟨b, o + j, none⟩ = some u) (h1 : ∀ u ∈ news, u.oneCell' = true)
    (h63 : n + m ≤ maxLen) (hbytes : (n + m) * bytes ≤ 140737488355328) (hbase : base ≤ w.heap.size) :
    ∃ v' w', (Builtin.append_ #[t, t] ty #[v, .slice (some ⟨b, o, none⟩) m c]).run P w = .ok v' w' ∧ w'.ownsRow base e size v' (n + m) (xs ++ news) ∧ Grows w w' v v' := by
  obtain ⟨v', w', r1, r2, r3, _, r5⟩ := run_append_own_at (P := P) w base t ty e i z size bytes ht hi hz hsize hby hzs hsz v n xs hown ⟨b, o, none⟩ m c news hl (fun j u hu => by rw [Addr.add_lit]; exact hnews j u hu) h1 h63 hbytes hbase
  refine ⟨v', w', r1, r2, r3, ?_⟩
  rcases r5 with h | h
  · exact .inl h
  · exact .inr ⟨_, h, Nat.le_refl _⟩
/-- append(s, x...), s one's own, x whatever row of bytes. -/
theorem run_append_byt {P : Program} {w : World} (ty : TypeId) {t e : TypeId} (T : ByT P t e) (base : Nat) (v : Value) (n : Nat) (xs : List Value) (hown : w.ownsRow base e 1 v n xs) (xv : Value) (l : List Nat) (hl : Bytes w xv l)
    (hbytes : n + l.length ≤ 140737488355328) (hbase : base ≤ w.heap.size) :
    ∃ v' w', (Builtin.append_ #[t, t] ty #[v, xv]).run P w = .ok v' w' ∧ w'.ownsRow base e 1 v' (n + l.length) (xs ++ cellsOf l) ∧ Grows w w' v v' := by
  obtain ⟨i, hi, hz, hz1, hz2⟩ := info_parts T.info
  rcases hl.out with ⟨rfl, rfl⟩ | ⟨ad, rfl, rfl⟩ | ⟨b, off, cap, rfl, hcap, hc⟩
  · exact ⟨v, w, run_append_owned_none (P := P) (w := w) base t ty e i 1 T.slice hi v n xs hown, by simpa [cellsOf] using hown, Grows.refl _ _⟩
  · obtain ⟨v', w', r1, r2, r3, _, r5⟩ := run_append_own_at (P := P) w base t ty e i (.int .u8 0) 1 1 T.slice hi hz hz1 hz2 rfl (by omega) v n xs hown ad 0 0 [] rfl (by simp) (by simp) (by simp at hbytes; unfold maxLen; omega) (by simpa using hbytes) hbase
    refine ⟨v', w', r1, r2, r3, ?_⟩
    rcases r5 with h | h
    · exact .inl h
    · exact .inr ⟨_, h, Nat.le_refl _⟩
  · exact run_append_grows (P := P) (w := w) ty (z := .int .u8 0) T.slice hi hz hz1 hz2 rfl (by omega) base v n xs hown b off l.length cap (cellsOf l) (by rw [cellsOf_length, Nat.mul_one]) (by
      intro j u hu
      obtain ⟨hj, rfl⟩ := cellsOf_at hu
      exact hc j hj) (cellsOf_one l) (by unfold maxLen; omega) (by omega) hbase
end Go.By
namespace Go.Proofs.Ytbjjaabmdjbodaa
open Go Go.RowKit Go.By

theorem highOf_at (n : Nat) : ∀ (v k : Nat), k < n → (highOf v n)[k]? = some (v / 256 ^ (n - 1 - k) % 256) := by
  induction n with
  | zero => intro v k h; omega
  | succ n ih =>
    intro v k h
    rw [highOf]
    by_cases hk : k < n
    · rw [List.getElem?_append_left (by rw [highOf_length]; exact hk), ih _ _ hk, Nat.div_div_eq_div_mul, show n + 1 - 1 - k = (n - 1 - k) + 1 by omega, Nat.pow_succ, Nat.mul_comm]
    · obtain rfl : k = n := by omega
      rw [List.getElem?_append_right (by rw [highOf_length]; omega), highOf_length]
      simp
theorem highOf_take {v n k : Nat} (h : k < n) : (highOf v n).take (k + 1) = (highOf v n).take k ++ [v / 256 ^ (n - 1 - k) % 256] := by
  have hl : k < (highOf v n).length := by rw [highOf_length]; exact h
  rw [List.take_succ_eq_append_getElem hl]
  have := highOf_at n v k h
  rw [List.getElem?_eq_getElem hl] at this
  rw [Option.some.inj this]

/-- A row of one's own is told, this one; only it turned. -/
def RowsG (w : World) (base : Nat) (v : Value) (m : List Nat) (e : Ending) (w' : World) : Prop :=
  ∃ v', e = .returned v' ∧ w'.ownsRow base 5 1 v' m.length (cellsOf m) ∧ Grows w w' v v'
/-- The row that a number is being laid behind, and where it stands. -/
def NumAt (w0 : World) (base n : Nat) (l : List Nat) (v : Value) (x i : Value) (w : World) : Prop :=
  ∃ k : Nat, k ≤ 8 ∧ i = .int .i64 k ∧ w.ownsRow base 5 1 x (l ++ (highOf n 8).take k).length (cellsOf (l ++ (highOf n 8).take k)) ∧ Grows w0 w v x

set_option maxRecDepth 100000 in
theorem putNumber_any (n : Nat) (hn : n < 9223372036854775808) (v : Value) (l : List Nat) (base : Nat) (w : World) (hv : w.ownsRow base 5 1 v l.length (cellsOf l)) (hl : l.length ≤ 100000) (hb : base ≤ w.heap.size) :
    Calls Try.prog 28 #[v, .int .u64 n] w (RowsG w base v (l ++ highOf n 8)) := by
  have hn1 : (n : Int) ≤ 9223372036854775807 := by omega
  have HN := Lib.hid hn; clear hn
  have h0 : NumAt w base n l v v (.int .i64 (0 : Nat)) w := ⟨0, by omega, rfl, by simpa using hv, Grows.refl _ _⟩
  have H0 := Lib.hid h0
  clear h0 hv
  go_enter Try.func28, Try.ntmps28
  go_wp2
  go_loopw [0, 6] (fun x i wr => NumAt w base n l v x i wr) (fun _ i _ => 8 - (intOf i).toNat)
  case atStart => exact H0.out
  case round =>
    clear H0
    obtain ⟨k, hk, rfl, hown, hbel⟩ := hrel
    have hsz := hbel.by_.size
    obtain ⟨p, cap, rfl⟩ := shape_of hown
    by_cases hlt : k < 8
    · obtain ⟨j, hj⟩ : ∃ j, j = 7 - k := ⟨_, rfl⟩
      have hj1 : (7 : Int) - (k : Int) = j := by omega
      have hsh : (n : Int) / 2 ^ (8 * (j : Int)).toNat = ((n / 256 ^ j : Nat) : Int) := by
        have : (8 * (j : Int)).toNat = 8 * j := by omega
        rw [this, show 256 ^ j = 2 ^ (8 * j) by rw [Nat.pow_mul], Int.natCast_ediv, Int.natCast_pow]
        rfl
      have htk := highOf_take (v := n) hlt
      rw [show 8 - 1 - k = j by omega] at htk
      have hxn : n / 256 ^ j ≤ n := Nat.div_le_self _ _
      have hw8 : IntKind.u8.wrap ((n / 256 ^ j : Nat) : Int) = ((n / 256 ^ j % 256 : Nat) : Int) := by rw [IntKind.wrap_u8]; omega
      generalize hx : n / 256 ^ j = x at *
      have hx1 : (x : Int) ≤ 9223372036854775807 := by omega
      have hlen : (l ++ (highOf n 8).take k).length ≤ 100008 := by rw [List.length_append, List.length_take]; omega
      have HT : Hid (l ++ (highOf n 8).take (k + 1) = (l ++ (highOf n 8).take k) ++ [x % 256]) := by unfold Hid; rw [htk, List.append_assoc]
      generalize hm : l ++ (highOf n 8).take k = m at *
      have HO := Lib.hid hown; have HB := Lib.hid hbel
      have hlm : (m.length : Int) ≤ 100008 := by omega
      have hbs : base ≤ wr.heap.size := by omega
      have hjl : (j : Int) ≤ 7 := by omega
      obtain ⟨v2, w2, hrun, hown2, hg2⟩ := run_append_byt (P := Try.prog) 30 byT base (.slice p m.length cap) m.length (cellsOf m) (HO.out.alloc (.cells #[.int .u8 (x % 256 : Nat)] 5)) (.slice (some ⟨wr.heap.size, 0, none⟩) 1 1) [x % 256] (Bytes.one (by omega) (by omega)) (by simp; omega) (by simp; omega)
      have ho2 : w2.ownsRow base 5 1 v2 (m ++ [x % 256]).length (cellsOf (m ++ [x % 256])) := by
        rw [List.length_append, cellsOf_append]; exact hown2
      rw [← HT.out] at ho2
      have hrel2 : NumAt w base n l v v2 (.int .i64 (k + 1 : Nat)) w2 := ⟨k + 1, by omega, rfl, ho2, HB.out.trans ((Grows.alloc _ _ _).trans hg2)⟩
      have HR := Lib.hid hrel2; have HRUN := Lib.hid hrun
      clear hown hbel htk hxn hx hm hj hlen hown2 hg2 ho2 hrel2 hrun
      go_wp2_with (at_builtin; refine Lib.wpList_append_run _ rfl (.tmp 9) (.tmp 16) 30 30 rfl _ _ rfl rfl v2 w2 HRUN.out ?_)
      go_roundw
      case rel => exact HR.out
      case measure => simp [intOf]; omega
    · obtain rfl : k = 8 := by omega
      rw [List.take_of_length_le (by rw [highOf_length]; omega)] at hown
      have HO := Lib.hid hown; have HB := Lib.hid hbel
      clear hown hbel
      go_wp2
      go_ret
      exact ⟨_, rfl, by simpa [List.length_take, highOf_length] using HO.out, HB.out⟩

set_option maxRecDepth 100000 in
theorem putText_any (v xv : Value) (l m : List Nat) (base : Nat) (w : World) (hv : w.ownsRow base 5 1 v l.length (cellsOf l)) (hl : l.length ≤ 1000000) (hb : base ≤ w.heap.size) (hx : Bytes w xv m) (hne : m ≠ [] → xv.ownBlock ≠ v.ownBlock) (hm : m.length ≤ 255) :
    Calls Try.prog 27 #[v, xv] w (RowsG w base v (l ++ txt m)) := by
  obtain ⟨p, cap, rfl⟩ := shape_of hv
  have HV := Lib.hid hv; clear hv
  have hm' : (m.length : Int) ≤ 255 := by omega
  have hw8 : IntKind.u8.wrap (m.length : Int) = m.length := by rw [IntKind.wrap_u8]; omega
  obtain ⟨v1, w1, hrun, hown1, hg1⟩ := run_append_byt (P := Try.prog) 30 byT base (.slice p l.length cap) l.length (cellsOf l) (HV.out.alloc (.cells #[.int .u8 (m.length : Nat)] 5)) (.slice (some ⟨w.heap.size, 0, none⟩) 1 1) [m.length] (Bytes.one rfl (by omega)) (by simp; omega) (by simp; omega)
  have hga := (Grows.alloc w (.slice p l.length cap) (.cells #[.int .u8 (m.length : Nat)] 5)).trans hg1
  have ho1 : w1.ownsRow base 5 1 v1 (l ++ [m.length]).length (cellsOf (l ++ [m.length])) := by
    rw [List.length_append, cellsOf_append]; exact hown1
  have hz := hga.by_.size
  have hx1 : Bytes w1 xv m := by
    refine ⟨?_, hx.small, hx.short⟩
    rcases hx.out with h | h | ⟨b, o, c, rfl, hc, hcell⟩
    · exact .inl h
    · exact .inr (.inl h)
    · refine .inr (.inr ⟨b, o, c, rfl, hc, fun i hi => ?_⟩)
      have h0 := hcell i hi
      have hb' : b < w.heap.size := block_lt_of_cell h0
      exact (World.cell?_of_block (a := ⟨b, o + i, none⟩) (hga.block hb' (by
        intro e
        exact hne (by intro e0; subst e0; exact absurd hi (Nat.not_lt_zero _)) (by rw [e]; rfl)))).trans h0
  obtain ⟨q, cq, rfl, _⟩ := hx.any
  obtain ⟨v2, w2, hrun2, ho2, hg2⟩ := run_append_byt (P := Try.prog) 30 byT base v1 (l ++ [m.length]).length (cellsOf (l ++ [m.length])) ho1 (.slice q m.length cq) m hx1 (by rw [List.length_append]; simp; omega) (by omega)
  have ho3 : w2.ownsRow base 5 1 v2 (l ++ txt m).length (cellsOf (l ++ txt m)) := by
    have e : l ++ txt m = (l ++ [m.length]) ++ m := by unfold txt; simp
    rw [e, List.length_append, cellsOf_append]
    exact ho2
  have HR1 := Lib.hid hrun; have HR2 := Lib.hid hrun2; have HO := Lib.hid ho3; have HB := Lib.hid (hga.trans hg2)
  clear hrun hrun2 ho3 ho2 hg2 ho1 hown1 hg1 hga hz HV hx hx1 hne
  go_enter Try.func27, Try.ntmps27
  go_wp2_with first
    | (at_builtin; refine Lib.wpList_append_run _ rfl (.tmp 5) (.tmp 9) 30 30 rfl _ _ rfl rfl v1 w1 HR1.out ?_)
    | (at_builtin; refine Lib.wpList_append_run _ rfl (.tmp 10) (.tmp 11) 30 30 rfl _ _ rfl rfl v2 w2 HR2.out ?_)
  go_ret
  exact ⟨_, rfl, HO.out, HB.out⟩
end Go.Proofs.Ytbjjaabmdjbodaa

