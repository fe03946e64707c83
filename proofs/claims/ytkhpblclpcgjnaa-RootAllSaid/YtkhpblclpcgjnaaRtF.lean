/- Roots in a program: the developers' numbers and parts, as they are put. -/
import Derived.Test.YtkhpblclpcgjnaaRtC
import Derived.OwnWalk
namespace Go.By
open Go Go.RowKit

/-- A row that is appended to: only its own block turned, and what it has become is it, or new. -/
structure Grows (w w' : World) (v v' : Value) : Prop where
  by_ : w.grownBy w' v.ownBlock
  new : v'.ownBlock = v.ownBlock ∨ ∃ g, v'.ownBlock = some g ∧ w.heap.size ≤ g
theorem Grows.refl (w : World) (v : Value) : Grows w w v v := ⟨World.grownBy.refl _ _, .inl rfl⟩
theorem Grows.trans {w w1 w2 : World} {v v1 v2 : Value} (h : Grows w w1 v v1) (k : Grows w1 w2 v1 v2) : Grows w w2 v v2 := by
  refine ⟨⟨k.by_.os.trans h.by_.os, k.by_.tape.trans h.by_.tape, k.by_.output.trans h.by_.output, Nat.le_trans h.by_.size k.by_.size, fun j hj hne => ?_⟩, ?_⟩
  · refine (k.by_.block j (Nat.lt_of_lt_of_le hj h.by_.size) (fun e => ?_)).trans (h.by_.block j hj hne)
    rcases h.new with h1 | ⟨g, h1, h2⟩
    · exact hne (by rw [e, h1])
    · rw [h1] at e
      have := Option.some.inj e
      omega
  · rcases k.new with h1 | ⟨g, h1, h2⟩
    · rw [h1]; exact h.new
    · exact .inr ⟨g, h1, Nat.le_trans h.by_.size h2⟩
theorem Grows.alloc (w : World) (v : Value) (o : Obj) : Grows w (w.alloc o) v v := ⟨World.grownBy_alloc _ _ _, .inl rfl⟩
theorem Grows.of_below {w w' : World} (h : Below w.heap.size w w') (v : Value) : Grows w w' v v := ⟨⟨h.os, h.tape, h.output, h.size, fun j hj _ => h.block j hj⟩, .inl rfl⟩
theorem Grows.below {base : Nat} {w0 w w' : World} {v v' : Value} (h : Grows w w' v v') (hb : Below base w0 w) (hw : base ≤ w.heap.size) (hv : ∀ k, v.ownBlock = some k → base ≤ k) : Below base w0 w' :=
  hb.grown h.by_ hw hv
/-- What lies elsewhere is as it was. -/
theorem Grows.block {w w' : World} {v v' : Value} (h : Grows w w' v v') {k : Nat} (hk : k < w.heap.size) (hne : v.ownBlock ≠ some k) : w'.heap[k]? = w.heap[k]? := h.by_.block k hk (fun e => hne e.symm)
theorem Grows.size {w w' : World} {v v' : Value} (h : Grows w w' v v') : w.heap.size ≤ w'.heap.size := h.by_.size
theorem run_append_grows {P : Program} {w : World} (ty : TypeId) {t e : TypeId} {i : TypeInfo} {z : Value} {size bytes : Nat} (ht : P.underlying t = some (.slice e)) (hi : P.info? e = some i) (hz : i.zero = some z)
    (hsize : i.size = size) (hby : i.bytes = bytes) (hzs : z.cells.size = size) (hsz : 0 < size) (base : Nat) (v : Value) (n : Nat) (xs : List Value) (hown : w.ownsRow base e size v n xs)
    (b o m c : Nat) (news : List Value) (hl : news.length = m * size) (hnews : ∀ j u, news[j]? = some u → w.cell? ⟨b, o + j, none⟩ = some u) (h1 : ∀ u ∈ news, u.oneCell' = true)
    (h63 : n + m ≤ maxLen) (hbytes : (n + m) * bytes ≤ 140737488355328) (hbase : base ≤ w.heap.size) :
    ∃ v' w', (Builtin.append_ #[t, t] ty #[v, .slice (some ⟨b, o, none⟩) m c]).run P w = .ok v' w' ∧ w'.ownsRow base e size v' (n + m) (xs ++ news) ∧ Grows w w' v v' := by
  obtain ⟨v', w', r1, r2, r3, _, r5⟩ := run_append_own_at (P := P) w base t ty e i z size bytes ht hi hz hsize hby hzs hsz v n xs hown ⟨b, o, none⟩ m c news hl (fun j u hu => by rw [Addr.add_lit]; exact hnews j u hu) h1 h63 hbytes hbase
  refine ⟨v', w', r1, r2, r3, ?_⟩
  rcases r5 with h | h
  · exact .inl h
  · exact .inr ⟨_, h, Nat.le_refl _⟩
/-- append(s, c), s one's own, c a byte that was written out. -/
theorem run_append_one {P : Program} {w : World} (ty : TypeId) {t e : TypeId} (T : ByT P t e) (base : Nat) (v : Value) (n : Nat) (xs : List Value) (hown : w.ownsRow base e 1 v n xs) (g : Nat) (c : Nat) (hc : w.cell? ⟨g, 0, none⟩ = some (.int .u8 c))
    (hbytes : n + 1 ≤ 140737488355328) (hbase : base ≤ w.heap.size) :
    ∃ v' w', (Builtin.append_ #[t, t] ty #[v, .slice (some ⟨g, 0, none⟩) 1 1]).run P w = .ok v' w' ∧ w'.ownsRow base e 1 v' (n + 1) (xs ++ cellsOf [c]) ∧ Grows w w' v v' := by
  obtain ⟨i, hi, hz, hz1, hz2⟩ := info_parts T.info
  exact run_append_grows (P := P) (w := w) ty (z := .int .u8 0) T.slice hi hz hz1 hz2 rfl (by omega) base v n xs hown g 0 1 1 (cellsOf [c]) (by simp [cellsOf]) (by
      intro j u hu
      obtain ⟨hj, rfl⟩ := cellsOf_at hu
      obtain rfl : j = 0 := by simp at hj; exact hj
      exact hc) (cellsOf_one _) (by unfold maxLen; omega) (by omega) hbase
theorem highOf_at (n : Nat) : ∀ (v k : Nat), k < n → (highOf v n)[k]? = some (v / 256 ^ (n - 1 - k) % 256) := by
  induction n with
  | zero => intro v k h; omega
  | succ n ih =>
    intro v k h
    rw [highOf]
    by_cases hk : k < n
    · rw [List.getElem?_append_left (by rw [highOf_length]; exact hk), ih _ _ hk, Nat.div_div_eq_div_mul, show n + 1 - 1 - k = (n - 1 - k) + 1 by omega, Nat.pow_succ, Nat.mul_comm]
    · obtain rfl : k = n := by omega
      rw [List.getElem?_append_right (by rw [highOf_length]; omega), highOf_length]
      simp
theorem highOf_take {v n k : Nat} (h : k < n) : (highOf v n).take (k + 1) = (highOf v n).take k ++ [v / 256 ^ (n - 1 - k) % 256] := by
  have hl : k < (highOf v n).length := by rw [highOf_length]; exact h
  rw [List.take_succ_eq_append_getElem hl]
  have := highOf_at n v k h
  rw [List.getElem?_eq_getElem hl] at this
  rw [Option.some.inj this]
end Go.By
namespace Go.Proofs.Ytkhpblclpcgjnaa
open Go Go.RowKit Go.By

/-- A row of one's own is told, this one; only it turned. -/
def RowsG (w : World) (base : Nat) (v : Value) (m : List Nat) (e : Ending) (w' : World) : Prop :=
  ∃ v', e = .returned v' ∧ w'.ownsRow base 5 1 v' m.length (cellsOf m) ∧ Grows w w' v v'
/-- The row that a number is being laid behind, and where it stands. -/
def NumAt (w0 : World) (base n : Nat) (l : List Nat) (v : Value) (x i : Value) (w : World) : Prop :=
  ∃ k : Nat, k ≤ 8 ∧ i = .int .i64 k ∧ w.ownsRow base 5 1 x (l ++ (highOf n 8).take k).length (cellsOf (l ++ (highOf n 8).take k)) ∧ Grows w0 w v x

set_option maxRecDepth 100000 in
theorem putNumber_any (n : Nat) (hn : n < 18446744073709551616) (v : Value) (l : List Nat) (base : Nat) (w : World) (hv : w.ownsRow base 5 1 v l.length (cellsOf l)) (hl : l.length ≤ 100000) (hb : base ≤ w.heap.size) :
    Calls Try.prog 25 #[v, .int .u64 n] w (RowsG w base v (l ++ highOf n 8)) := by
  have hn1 : (n : Int) ≤ 18446744073709551615 := by omega
  have HN := Lib.hid hn; clear hn
  have h0 : NumAt w base n l v v (.int .i64 (0 : Nat)) w := ⟨0, by omega, rfl, by simpa using hv, Grows.refl _ _⟩
  have H0 := Lib.hid h0
  clear h0 hv
  go_enter Try.func25, Try.ntmps25
  go_wp2
  go_loopw [0, 6] (fun x i wr => NumAt w base n l v x i wr) (fun _ i _ => 8 - (intOf i).toNat)
  case atStart => exact H0.out
  case round =>
    clear H0
    obtain ⟨k, hk, rfl, hown, hbel⟩ := hrel
    have hsz := hbel.by_.size
    obtain ⟨p, cap, rfl⟩ := owns_slice hown
    by_cases hlt : k < 8
    · obtain ⟨j, hj⟩ : ∃ j, j = 7 - k := ⟨_, rfl⟩
      have hj1 : (7 : Int) - (k : Int) = j := by omega
      have hsh : (n : Int) / 2 ^ (8 * (j : Int)).toNat = ((n / 256 ^ j : Nat) : Int) := by
        have : (8 * (j : Int)).toNat = 8 * j := by omega
        rw [this, show 256 ^ j = 2 ^ (8 * j) by rw [Nat.pow_mul], Int.natCast_ediv, Int.natCast_pow]
        rfl
      have htk := highOf_take (v := n) hlt
      rw [show 8 - 1 - k = j by omega] at htk
      have hxn : n / 256 ^ j ≤ n := Nat.div_le_self _ _
      have hw8 : IntKind.u8.wrap ((n / 256 ^ j : Nat) : Int) = ((n / 256 ^ j % 256 : Nat) : Int) := by rw [IntKind.wrap_u8]; omega
      generalize hx : n / 256 ^ j = x at *
      have hx1 : (x : Int) ≤ 18446744073709551615 := by omega
      have hlen : (l ++ (highOf n 8).take k).length ≤ 100008 := by rw [List.length_append, List.length_take]; omega
      have HT : Hid (l ++ (highOf n 8).take (k + 1) = (l ++ (highOf n 8).take k) ++ [x % 256]) := by unfold Hid; rw [htk, List.append_assoc]
      generalize hm : l ++ (highOf n 8).take k = m at *
      have HO := Lib.hid hown; have HB := Lib.hid hbel
      have hlm : (m.length : Int) ≤ 100008 := by omega
      have hbs : base ≤ wr.heap.size := by omega
      have hjl : (j : Int) ≤ 7 := by omega
      obtain ⟨v2, w2, hrun, hown2, hg2⟩ := run_append_one (P := Try.prog) 28 byT base (.slice p m.length cap) m.length (cellsOf m) (HO.out.alloc (.cells #[.int .u8 (x % 256 : Nat)] 5)) wr.heap.size (x % 256) (cells_of (heap_alloc_new wr (.cells #[.int .u8 (x % 256 : Nat)] 5)) 0) (by omega) (by simp; omega)
      have ho2 : w2.ownsRow base 5 1 v2 (m ++ [x % 256]).length (cellsOf (m ++ [x % 256])) := by
        rw [List.length_append, cellsOf_append]; exact hown2
      rw [← HT.out] at ho2
      have hrel2 : NumAt w base n l v v2 (.int .i64 (k + 1 : Nat)) w2 := ⟨k + 1, by omega, rfl, ho2, HB.out.trans ((Grows.alloc _ _ _).trans hg2)⟩
      have HR := Lib.hid hrel2; have HRUN := Lib.hid hrun
      clear hown hbel htk hxn hx hm hj hlen hown2 hg2 ho2 hrel2 hrun
      go_wp2_with (at_builtin; refine Lib.wpList_append_run _ rfl (.tmp 9) (.tmp 16) 28 28 rfl _ _ rfl rfl v2 w2 HRUN.out ?_)
      go_roundw
      case rel => exact HR.out
      case measure => simp [intOf]; omega
    · obtain rfl : k = 8 := by omega
      rw [List.take_of_length_le (by rw [highOf_length]; omega)] at hown
      have HO := Lib.hid hown; have HB := Lib.hid hbel
      clear hown hbel
      go_wp2
      go_ret
      exact ⟨_, rfl, by simpa [List.length_take, highOf_length] using HO.out, HB.out⟩

/-- A part's method lays so many bytes. -/
structure PutPart (B : Nat) (f : FuncId) (X : Value) (m : List Nat) : Prop where
  enter : ∀ args w, (callFunc f args).run Try.prog w = .ok (.enter f args) w
  lays : ∀ (v : Value) (l : List Nat) (base : Nat) (w : World), w.ownsRow base 5 1 v l.length (cellsOf l) → l.length ≤ B → base ≤ w.heap.size →
    Calls Try.prog f #[X, v] w (RowsG w base v (l ++ m))
/-- How far a thing's parts have been laid. -/
def AlongAt (w0 : World) (base : Nat) (v : Value) (l0 : List Nat) (ms : List (List Nat)) (x i : Value) (w : World) : Prop :=
  ∃ (k : Nat) (l : List Nat), k ≤ ms.length ∧ i = .int .i64 k ∧ l.length ≤ l0.length + 100 * k ∧ l = l0 ++ (ms.take k).flatten ∧ w.ownsRow base 5 1 x l.length (cellsOf l) ∧ Grows w0 w v x

set_option maxRecDepth 100000 in
set_option maxHeartbeats 2000000 in
theorem along_tree (B : Nat) (x0 x1 : Value) (fs : List FuncId) (ms : List (List Nat)) (rb : Nat) (v : Value) (l0 : List Nat) (base : Nat) (w : World) (hlen : fs.length = ms.length) (h4 : ms.length ≤ 4) (hms : ∀ (i : Nat) m, ms[i]? = some m → m.length ≤ 100)
    (hP : ∀ (i : Nat) f m, fs[i]? = some f → ms[i]? = some m → PutPart B f (.agg #[x0, x1]) m) (hrow : ∀ (i : Nat) f, fs[i]? = some f → w.cell? ⟨rb, i, none⟩ = some (.func (.func f) #[] #[])) (hrb : rb < w.heap.size)
    (hv : w.ownsRow base 5 1 v l0.length (cellsOf l0)) (hl0 : l0.length + 100 * ms.length ≤ B) (hb : base ≤ w.heap.size) (hne : v.ownBlock ≠ some rb) (N : Nat) (hN : N = fs.length) :
    Calls Try.prog 26 #[.agg #[x0, x1], v, .slice (some ⟨rb, 0, none⟩) N N] w (RowsG w base v (l0 ++ ms.flatten)) := by
  obtain ⟨W, hW⟩ : ∃ W, W = w.alloc (.cells #[x0, x1] 50) := ⟨_, rfl⟩
  have hbW : Below w.heap.size w W := by rw [hW]; exact (Below.refl _ _).alloc (Nat.le_refl _) _
  have hcW : W.heap[w.heap.size]? = some (.cells #[x0, x1] 50 (0, 0)) := by rw [hW]; exact heap_alloc_new w _
  have hzW : W.heap.size = w.heap.size + 1 := by rw [hW]; simp
  have hvW : W.ownsRow base 5 1 v l0.length (cellsOf l0) := by rw [hW]; exact hv.alloc _
  have HFAR : Hid (v.ownBlock ≠ some w.heap.size) := fun e => by have := (hv.lt _ e).2; omega
  have HROW : Hid (∀ (i : Nat) f, fs[i]? = some f → W.cell? ⟨rb, i, none⟩ = some (.func (.func f) #[] #[])) := fun i f h => (hbW.cell (p := ⟨rb, i, none⟩) hrb).trans (hrow i f h)
  have HRB : Hid (rb < W.heap.size) := by unfold Hid; omega
  have HNE := Lib.hid hne
  have HGW : Hid (Grows w W v v) := Grows.of_below hbW v
  have h0 : AlongAt W base v l0 ms v (.int .i64 (0 : Nat)) W := ⟨0, l0, by omega, rfl, by omega, by simp, hvW, Grows.refl _ _⟩
  have H0 := Lib.hid h0
  have HP := Lib.hid hP; have HMS := Lib.hid hms; have HLEN := Lib.hid hlen; have HW := Lib.hid hW; have HCW := Lib.hid hcW; have HZW := Lib.hid hzW
  have hN4 : (N : Int) ≤ 4 := by omega
  have HN := Lib.hid hN; have HL0 := Lib.hid hl0
  have HBW : Hid (base ≤ W.heap.size) := by unfold Hid; omega
  obtain ⟨p0, cap0, rfl⟩ := owns_slice hv
  clear hP hms hrow hlen h4 hN hW hbW hcW hzW hvW hv h0 hl0 hb hne hrb
  go_enter Try.func26, Try.ntmps26
  go_upto_region 1 with fail
  rw [← HW.out]
  go_wp2
  go_loopw [1, 11] (fun x i wr => AlongAt W base (.slice p0 l0.length cap0) l0 ms x i wr) (fun _ i _ => 6 - (intOf i).toNat)
  case atStart => exact H0.out
  case round =>
    clear H0
    obtain ⟨k, l, hk, rfl, hl, hout, hown, hg⟩ := hrel
    have hsz := hg.size
    obtain ⟨p, cap, rfl⟩ := owns_slice hown
    by_cases hlt : k < N
    · have hkf : k < fs.length := by rw [← HN.out]; exact hlt
      have hkm : k < ms.length := by rw [← HLEN.out]; exact hkf
      obtain ⟨f, hf⟩ : ∃ f, fs[k]? = some f := ⟨_, List.getElem?_eq_getElem hkf⟩
      obtain ⟨m, hm⟩ : ∃ m, ms[k]? = some m := ⟨_, List.getElem?_eq_getElem hkm⟩
      have hpart := HP.out k f m hf hm
      have hent := hpart.enter
      have hcell : wr.cell? ⟨rb, k, none⟩ = some (.func (.func f) #[] #[]) := (hg.by_.cell (HROW.out k f hf) (fun e => HNE.out e.symm))
      have hbox : wr.heap[w.heap.size]? = some (.cells #[x0, x1] 50 (0, 0)) := (hg.block (by have := HZW.out; omega) HFAR.out).trans HCW.out
      have hc0 : wr.cell? ⟨w.heap.size, 0, none⟩ = some x0 := cells_of hbox 0
      have hc1 : wr.cell? ⟨w.heap.size, 1, none⟩ = some x1 := cells_of hbox 1
      have htk : Hid (l0 ++ (ms.take (k + 1)).flatten = l ++ m) := by
        unfold Hid
        rw [List.take_succ_eq_append_getElem hkm, List.flatten_append, hout]
        rw [List.getElem?_eq_getElem hkm] at hm
        rw [Option.some.inj hm]
        simp
      have hm100 := HMS.out k m hm
      have hl1 : l.length ≤ B := by have := HL0.out; omega
      have HL1 := Lib.hid hl1; have HLL := Lib.hid hl
      have HO := Lib.hid hown; have HG := Lib.hid hg
      have HPART := Lib.hid hpart; have HM1 := Lib.hid hm100
      have HKM := Lib.hid hkm
      have HBS : Hid (base ≤ wr.heap.size) := by have := HBW.out; unfold Hid; omega
      obtain ⟨LN, hLN⟩ : ∃ n, n = l.length := ⟨_, rfl⟩
      have HLN := Lib.hid hLN
      rw [← hLN]
      clear hown hg hbox hout hf hm hpart hkf hkm hm100 hl hl1 hLN
      go_wp2_with fail
      rw [HLN.out]
      refine (HPART.out.lays _ l base wr HO.out HL1.out HBS.out).mono ?_
      rintro e w2 ⟨v2, rfl, ho2, hg2⟩
      have hm101 := HM1.out
      have hrel2 : AlongAt W base (.slice p0 l0.length cap0) l0 ms v2 (.int .i64 (k + 1 : Nat)) w2 :=
        ⟨k + 1, l ++ m, HKM.out, rfl, by rw [List.length_append]; have := HLL.out; omega, htk.out.symm, ho2, HG.out.trans hg2⟩
      have HR := Lib.hid hrel2
      clear ho2 hg2 hm101 hrel2
      go_wp2
      go_roundw
      case rel => exact HR.out
      case measure => simp [intOf]; omega
    · obtain rfl : k = N := by have := HLEN.out; have := HN.out; omega
      have E : Hid (l = l0 ++ ms.flatten) := by
        unfold Hid
        rw [hout, List.take_of_length_le (by have := HLEN.out; have := HN.out; omega)]
      have HEND : Hid (RowsG w base (.slice p0 l0.length cap0) (l0 ++ ms.flatten) (.returned (.slice p l.length cap)) wr) := ⟨_, rfl, by rw [← E.out]; exact hown, HGW.out.trans hg⟩
      obtain ⟨LN, hLN⟩ : ∃ n, n = l.length := ⟨_, rfl⟩
      rw [← hLN] at HEND ⊢
      clear hown hg hout hLN hl hk E
      go_wp2
      go_ret
      exact HEND.out

set_option maxRecDepth 100000 in
set_option maxHeartbeats 2000000 in
theorem along_root (B : Nat) (x0 x1 x2 x3 x4 x5 x6 x7 x8 x9 x10 x11 : Value) (fs : List FuncId) (ms : List (List Nat)) (rb : Nat) (v : Value) (l0 : List Nat) (base : Nat) (w : World) (hlen : fs.length = ms.length) (h4 : ms.length ≤ 4) (hms : ∀ (i : Nat) m, ms[i]? = some m → m.length ≤ 100)
    (hP : ∀ (i : Nat) f m, fs[i]? = some f → ms[i]? = some m → PutPart B f (.agg #[x0, x1, x2, x3, x4, x5, x6, x7, x8, x9, x10, x11]) m) (hrow : ∀ (i : Nat) f, fs[i]? = some f → w.cell? ⟨rb, i, none⟩ = some (.func (.func f) #[] #[])) (hrb : rb < w.heap.size)
    (hv : w.ownsRow base 5 1 v l0.length (cellsOf l0)) (hl0 : l0.length + 100 * ms.length ≤ B) (hb : base ≤ w.heap.size) (hne : v.ownBlock ≠ some rb) (N : Nat) (hN : N = fs.length) :
    Calls Try.prog 16 #[.agg #[x0, x1, x2, x3, x4, x5, x6, x7, x8, x9, x10, x11], v, .slice (some ⟨rb, 0, none⟩) N N] w (RowsG w base v (l0 ++ ms.flatten)) := by
  obtain ⟨W, hW⟩ : ∃ W, W = w.alloc (.cells #[x0, x1, x2, x3, x4, x5, x6, x7, x8, x9, x10, x11] 38) := ⟨_, rfl⟩
  have hbW : Below w.heap.size w W := by rw [hW]; exact (Below.refl _ _).alloc (Nat.le_refl _) _
  have hcW : W.heap[w.heap.size]? = some (.cells #[x0, x1, x2, x3, x4, x5, x6, x7, x8, x9, x10, x11] 38 (0, 0)) := by rw [hW]; exact heap_alloc_new w _
  have hzW : W.heap.size = w.heap.size + 1 := by rw [hW]; simp
  have hvW : W.ownsRow base 5 1 v l0.length (cellsOf l0) := by rw [hW]; exact hv.alloc _
  have HFAR : Hid (v.ownBlock ≠ some w.heap.size) := fun e => by have := (hv.lt _ e).2; omega
  have HROW : Hid (∀ (i : Nat) f, fs[i]? = some f → W.cell? ⟨rb, i, none⟩ = some (.func (.func f) #[] #[])) := fun i f h => (hbW.cell (p := ⟨rb, i, none⟩) hrb).trans (hrow i f h)
  have HRB : Hid (rb < W.heap.size) := by unfold Hid; omega
  have HNE := Lib.hid hne
  have HGW : Hid (Grows w W v v) := Grows.of_below hbW v
  have h0 : AlongAt W base v l0 ms v (.int .i64 (0 : Nat)) W := ⟨0, l0, by omega, rfl, by omega, by simp, hvW, Grows.refl _ _⟩
  have H0 := Lib.hid h0
  have HP := Lib.hid hP; have HMS := Lib.hid hms; have HLEN := Lib.hid hlen; have HW := Lib.hid hW; have HCW := Lib.hid hcW; have HZW := Lib.hid hzW
  have hN4 : (N : Int) ≤ 4 := by omega
  have HN := Lib.hid hN; have HL0 := Lib.hid hl0
  have HBW : Hid (base ≤ W.heap.size) := by unfold Hid; omega
  obtain ⟨p0, cap0, rfl⟩ := owns_slice hv
  clear hP hms hrow hlen h4 hN hW hbW hcW hzW hvW hv h0 hl0 hb hne hrb
  go_enter Try.func16, Try.ntmps16
  go_upto_region 1 with fail
  rw [← HW.out]
  go_wp2
  go_loopw [1, 11] (fun x i wr => AlongAt W base (.slice p0 l0.length cap0) l0 ms x i wr) (fun _ i _ => 6 - (intOf i).toNat)
  case atStart => exact H0.out
  case round =>
    clear H0
    obtain ⟨k, l, hk, rfl, hl, hout, hown, hg⟩ := hrel
    have hsz := hg.size
    obtain ⟨p, cap, rfl⟩ := owns_slice hown
    by_cases hlt : k < N
    · have hkf : k < fs.length := by rw [← HN.out]; exact hlt
      have hkm : k < ms.length := by rw [← HLEN.out]; exact hkf
      obtain ⟨f, hf⟩ : ∃ f, fs[k]? = some f := ⟨_, List.getElem?_eq_getElem hkf⟩
      obtain ⟨m, hm⟩ : ∃ m, ms[k]? = some m := ⟨_, List.getElem?_eq_getElem hkm⟩
      have hpart := HP.out k f m hf hm
      have hent := hpart.enter
      have hcell : wr.cell? ⟨rb, k, none⟩ = some (.func (.func f) #[] #[]) := (hg.by_.cell (HROW.out k f hf) (fun e => HNE.out e.symm))
      have hbox : wr.heap[w.heap.size]? = some (.cells #[x0, x1, x2, x3, x4, x5, x6, x7, x8, x9, x10, x11] 38 (0, 0)) := (hg.block (by have := HZW.out; omega) HFAR.out).trans HCW.out
      have hc0 : wr.cell? ⟨w.heap.size, 0, none⟩ = some x0 := cells_of hbox 0
      have hc1 : wr.cell? ⟨w.heap.size, 1, none⟩ = some x1 := cells_of hbox 1
      have hc2 : wr.cell? ⟨w.heap.size, 2, none⟩ = some x2 := cells_of hbox 2
      have hc3 : wr.cell? ⟨w.heap.size, 3, none⟩ = some x3 := cells_of hbox 3
      have hc4 : wr.cell? ⟨w.heap.size, 4, none⟩ = some x4 := cells_of hbox 4
      have hc5 : wr.cell? ⟨w.heap.size, 5, none⟩ = some x5 := cells_of hbox 5
      have hc6 : wr.cell? ⟨w.heap.size, 6, none⟩ = some x6 := cells_of hbox 6
      have hc7 : wr.cell? ⟨w.heap.size, 7, none⟩ = some x7 := cells_of hbox 7
      have hc8 : wr.cell? ⟨w.heap.size, 8, none⟩ = some x8 := cells_of hbox 8
      have hc9 : wr.cell? ⟨w.heap.size, 9, none⟩ = some x9 := cells_of hbox 9
      have hc10 : wr.cell? ⟨w.heap.size, 10, none⟩ = some x10 := cells_of hbox 10
      have hc11 : wr.cell? ⟨w.heap.size, 11, none⟩ = some x11 := cells_of hbox 11
      have htk : Hid (l0 ++ (ms.take (k + 1)).flatten = l ++ m) := by
        unfold Hid
        rw [List.take_succ_eq_append_getElem hkm, List.flatten_append, hout]
        rw [List.getElem?_eq_getElem hkm] at hm
        rw [Option.some.inj hm]
        simp
      have hm100 := HMS.out k m hm
      have hl1 : l.length ≤ B := by have := HL0.out; omega
      have HL1 := Lib.hid hl1; have HLL := Lib.hid hl
      have HO := Lib.hid hown; have HG := Lib.hid hg
      have HPART := Lib.hid hpart; have HM1 := Lib.hid hm100
      have HKM := Lib.hid hkm
      have HBS : Hid (base ≤ wr.heap.size) := by have := HBW.out; unfold Hid; omega
      obtain ⟨LN, hLN⟩ : ∃ n, n = l.length := ⟨_, rfl⟩
      have HLN := Lib.hid hLN
      rw [← hLN]
      clear hown hg hbox hout hf hm hpart hkf hkm hm100 hl hl1 hLN
      go_wp2_with fail
      rw [HLN.out]
      refine (HPART.out.lays _ l base wr HO.out HL1.out HBS.out).mono ?_
      rintro e w2 ⟨v2, rfl, ho2, hg2⟩
      have hm101 := HM1.out
      have hrel2 : AlongAt W base (.slice p0 l0.length cap0) l0 ms v2 (.int .i64 (k + 1 : Nat)) w2 :=
        ⟨k + 1, l ++ m, HKM.out, rfl, by rw [List.length_append]; have := HLL.out; omega, htk.out.symm, ho2, HG.out.trans hg2⟩
      have HR := Lib.hid hrel2
      clear ho2 hg2 hm101 hrel2
      go_wp2
      go_roundw
      case rel => exact HR.out
      case measure => simp [intOf]; omega
    · obtain rfl : k = N := by have := HLEN.out; have := HN.out; omega
      have E : Hid (l = l0 ++ ms.flatten) := by
        unfold Hid
        rw [hout, List.take_of_length_le (by have := HLEN.out; have := HN.out; omega)]
      have HEND : Hid (RowsG w base (.slice p0 l0.length cap0) (l0 ++ ms.flatten) (.returned (.slice p l.length cap)) wr) := ⟨_, rfl, by rw [← E.out]; exact hown, HGW.out.trans hg⟩
      obtain ⟨LN, hLN⟩ : ∃ n, n = l.length := ⟨_, rfl⟩
      rw [← hLN] at HEND ⊢
      clear hown hg hout hLN hl hk E
      go_wp2
      go_ret
      exact HEND.out
end Go.Proofs.Ytkhpblclpcgjnaa

