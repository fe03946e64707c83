/- rec: the document's numbers. -/
import Derived.Test.YtajfcnaifegonaaMSumE
import Derived.Maps.AppendAt
import Derived.Laws.OwnMore
namespace Go.By
open Go Go.RowKit
theorem run_append_bytesR {P : Program} {w : World} (ty : TypeId) {t e : TypeId} (T : ByT P t e) (base : Nat) (v : Value) (n : Nat) (xs : List Value) (hown : w.ownsRow base e 1 v n xs) (xv : Value) (l : List Nat) (hl : Bytes w xv l)
    (hbytes : n + l.length ≤ 140737488355328) (hbase : base ≤ w.heap.size) :
    ∃ v' w', (Builtin.append_ #[t, t] ty #[v, xv]).run P w = .ok v' w' ∧ w'.ownsRow base e 1 v' (n + l.length) (xs ++ cellsOf l) ∧ w.grownBy w' v.ownBlock := by
  obtain ⟨i, hi, hz, hz1, hz2⟩ := info_parts T.info
  rcases hl.out with ⟨rfl, rfl⟩ | ⟨ad, rfl, rfl⟩ | ⟨b, off, cap, rfl, hcap, hc⟩
  · exact ⟨v, w, run_append_owned_none (P := P) (w := w) base t ty e i 1 T.slice hi v n xs hown, by simpa [cellsOf] using hown, World.grownBy.refl _ _⟩
  · obtain ⟨v', w', h1, h2, h3, _⟩ := run_append_own_at (P := P) w base t ty e i (.int .u8 0) 1 1 T.slice hi hz hz1 hz2 rfl (by omega) v n xs hown ad 0 0 [] rfl (by simp) (by simp) (by simp at hbytes; unfold maxLen; omega) (by simpa using hbytes) hbase
    exact ⟨v', w', h1, h2, h3⟩
  · obtain ⟨v', w', h1, h2, h3, _⟩ := run_append_own_at (P := P) w base t ty e i (.int .u8 0) 1 1 T.slice hi hz hz1 hz2 rfl (by omega) v n xs hown ⟨b, off, none⟩ l.length cap (cellsOf l) (by rw [cellsOf_length, Nat.mul_one]) (by
      intro j u hu
      obtain ⟨hj, rfl⟩ := cellsOf_at hu
      rw [Addr.add_lit]; exact hc j hj) (cellsOf_one l) (by unfold maxLen; omega) (by omega) hbase
    exact ⟨v', w', h1, h2, h3⟩
theorem step_append_bytesR {P : Program} {w : World} {ops : Array Oper} {o : Oper} {a : Act} {K : Act → World → Prop} {Q : Exit → Act → World → Prop} {E : Prop} (hgd : o.guard = none) (s x : Operand) {t e : TypeId} (T : ByT P t e)
    (ho : o.op = .call { callee := .builtin .append, args := #[s, x], argTypes := #[t, t] })
    (base : Nat) (v : Value) (n : Nat) (xs : List Value) (hs : a.eval s = v) (hown : w.ownsRow base e 1 v n xs) (xv : Value) (l : List Nat) (hx : a.eval x = xv) (hl : Bytes w xv l)
    (hbytes : n + l.length ≤ 140737488355328) (hbase : base ≤ w.heap.size)
    (h : ∀ v' w', w'.ownsRow base e 1 v' (n + l.length) (xs ++ cellsOf l) → w.grownBy w' v.ownBlock → K (a.put o.dst v') w') :
    if Region.wanted o (yielded ops a.tmps) = true then Oper.wp P o a w K Q else E := by
  have hw : Region.wanted o (yielded ops a.tmps) = true := by simp [Region.wanted, hgd]
  rw [if_pos hw]
  obtain ⟨v', w', h1, h2, h3⟩ := run_append_bytesR (P := P) o.type T base v n xs hown xv l hl hbytes hbase
  unfold Oper.wp execOp
  simp only [ho, resolve, invoke, builtin, Sem.run_bind, Sem.run_pure, Result.andThen_ok, List.map_toArray, List.map_cons, List.map_nil, hs, hx, h1]
  exact h v' w' h2 h3
end Go.By
namespace Go.Proofs.Ytajfcnaifegonaa.Rc
open Go Go.RowKit Go.By
def Filled (w0 w : World) (L : List Nat) : Prop := w.heap[w0.heap.size]? = some (.cells (cellsOf L).toArray 5 (0, 0)) ∧ Below w0.heap.size w0 w
theorem Filled.set {w0 w : World} {L : List Nat} (h : Filled w0 w L) (i y : Nat) : Filled w0 (w.setCell ⟨w0.heap.size, i, none⟩ (.int .u8 y)) (L.set i y) := by
  refine ⟨?_, h.2.setCell (Nat.le_refl _) _⟩
  have := heap_setCell_same w w0.heap.size i (cellsOf L).toArray 5 (.int .u8 (y : Int)) h.1
  rw [this]
  congr 2
  rw [← cellsOf_set]
  simp
theorem Filled.cell {w0 w : World} {L : List Nat} (h : Filled w0 w L) {i : Nat} (hi : i < L.length) : w.cell? ⟨w0.heap.size, i, none⟩ = some (.int .u8 (atB L i : Nat)) := by
  rw [cell_of_row w w0.heap.size i (cellsOf L).toArray 5 (0, 0) h.1, List.getElem?_toArray]
  exact cellsOf_get hi
theorem Filled.free {w0 w : World} {L : List Nat} (h : Filled w0 w L) (i : Nat) : w.frozen? ⟨w0.heap.size, i, none⟩ = false := frozen_of_row w w0.heap.size i _ 5 h.1
theorem Filled.owns {w0 w : World} {L : List Nat} (h : Filled w0 w L) (hm : L.length ≤ maxLen) : w.ownsRow w0.heap.size 5 1 (.slice (some ⟨w0.heap.size, 0, none⟩) L.length L.length) L.length (cellsOf L) :=
  ⟨by simp [cellsOf], .inr ⟨w0.heap.size, L.length, _, rfl, Nat.le_refl _, h.1, Nat.le_refl _, hm, by simp [cellsOf], by simp [cellsOf, List.take_of_length_le]⟩⟩
def HighRel (w0 : World) (v n : Nat) (x i : Value) (w : World) : Prop :=
  ∃ (m : Nat) (cur : Nat) (tl : List Nat), m ≤ n ∧ m + tl.length = n ∧ x = .int .u64 (cur : Nat) ∧ i = .int .i64 ((m : Int) - 1) ∧ cur < 18446744073709551616 ∧ highOf v n = highOf cur m ++ tl ∧ Filled w0 w (List.replicate m 0 ++ tl)
set_option maxRecDepth 100000 in
theorem high_any (v n : Nat) (w : World) (hv : v < 18446744073709551616) (hn : n ≤ 1000) :
    Calls Try.prog 19 #[.int .u64 v, .int .i64 n] w fun e w' => ∃ v', e = .returned v' ∧ w'.ownsRow w.heap.size 5 1 v' n (cellsOf (highOf v n)) ∧ Below w.heap.size w w' := by
  have hmk := made_run n n (n : Int) (n : Int) rfl rfl (Nat.le_refl _) (by omega)
  have HV := Lib.hid hv; clear hv
  go_enter Try.func19, Try.ntmps19
  go_wp2
  clear hmk
  have h0 : HighRel w v n (.int .u64 v) (.int .i64 ((n : Int) - 1)) (w.alloc (.cells (zeros n) 5)) :=
    ⟨n, v, [], Nat.le_refl _, by simp, rfl, rfl, HV.out, by simp, by
      refine ⟨?_, (Below.refl _ _).alloc (Nat.le_refl _) _⟩
      rw [List.append_nil]; exact heap_alloc_new w _⟩
  have H0 := Lib.hid h0; clear h0
  go_loopw [0, 6] (fun x i wr => HighRel w v n x i wr) (fun _ i _ => (intOf i + 1).toNat)
  case atStart => exact H0.out
  case round =>
    clear H0
    obtain ⟨m, cur, tl, hmn, hml, rfl, rfl, hcur, heq, hf⟩ := hrel
    cases m with
    | zero =>
      have e1 : highOf v n = tl := by simpa [highOf] using heq
      have e2 : tl.length = n := by omega
      have HO := Lib.hid (hf.owns (by simp; unfold maxLen; omega))
      have HB := Lib.hid hf.2
      have E1 := Lib.hid e1; have E2 := Lib.hid e2
      clear heq hf hmn hml hcur e1 e2
      go_wp2
      go_ret
      refine ⟨_, rfl, ?_, HB.out⟩
      have := HO.out
      rw [E1.out]
      simp only [List.replicate_zero, List.nil_append, E2.out] at this
      exact this
    | succ m =>
      have hlen : (List.replicate (m + 1) 0 ++ tl).length = n := by simp; omega
      have hc := hf.cell (i := m) (by rw [hlen]; omega)
      have hfr := hf.free m
      have hset : (List.replicate (m + 1) 0 ++ tl).set m (cur % 256) = List.replicate m 0 ++ (cur % 256 :: tl) := by
        rw [List.replicate_succ', List.append_assoc, List.set_append_right _ _ (by simp)]
        simp
      have hf2 := hf.set m (cur % 256)
      rw [hset] at hf2
      have hrel2 : HighRel w v n (.int .u64 (cur / 256 : Nat)) (.int .i64 ((m : Int) - 1)) (wr.setCell ⟨w.heap.size, m, none⟩ (.int .u8 (cur % 256 : Nat))) :=
        ⟨m, cur / 256, _, by omega, by simp; omega, rfl, rfl, by omega, by rw [heq]; simp [highOf], hf2⟩
      have HR := Lib.hid hrel2
      have hx : ((m + 1 : Nat) : Int) - 1 = (m : Int) := by omega
      rw [hx]
      have hmn' : (m : Int) < n := by omega
      have hcur' : (cur : Int) < 18446744073709551616 := by omega
      clear hset hf hf2 heq hrel2 hlen hx hml hmn hcur
      go_wp2
      go_roundw
      case rel => exact HR.out
      case measure => simp [intOf]
end Go.Proofs.Ytajfcnaifegonaa.Rc
