/- append(s, make([]byte, k)...), s one's own; append to what is full. Over whatever program. -/
import Derived.Test.YtajfcnaifegonaaMCloneG
import Derived.ArgAppend
import Derived.Lib.AppendZerosOnto
namespace Go.By
open Go Go.RowKit
theorem owns_base {w : World} {B B' : Nat} {e : TypeId} {v : Value} {n : Nat} {xs : List Value} (h : w.ownsRow B e 1 v n xs) (hb : B' ≤ B) : w.ownsRow B' e 1 v n xs := by
  refine ⟨h.1, ?_⟩
  rcases h.2 with h | ⟨g, c, cur, h1, h2, h3⟩
  · exact .inl h
  · exact .inr ⟨g, c, cur, h1, Nat.le_trans hb h2, h3⟩
end Go.By
/- Rows that are appended to: only their own block turns. -/
namespace Go.By
open Go Go.RowKit
structure Grows (w w' : World) (v v' : Value) : Prop where
  by_ : w.grownBy w' v.ownBlock
  new : v'.ownBlock = v.ownBlock ∨ ∃ g, v'.ownBlock = some g ∧ w.heap.size ≤ g
theorem Grows.refl (w : World) (v : Value) : Grows w w v v := ⟨World.grownBy.refl _ _, .inl rfl⟩
theorem Grows.trans {w w1 w2 : World} {v v1 v2 : Value} (h : Grows w w1 v v1) (k : Grows w1 w2 v1 v2) : Grows w w2 v v2 := by
  refine ⟨⟨k.by_.os.trans h.by_.os, k.by_.tape.trans h.by_.tape, k.by_.output.trans h.by_.output, Nat.le_trans h.by_.size k.by_.size, fun j hj hne => ?_⟩, ?_⟩
  · refine (k.by_.block j (Nat.lt_of_lt_of_le hj h.by_.size) (fun e => ?_)).trans (h.by_.block j hj hne)
    rcases h.new with h1 | ⟨g, h1, h2⟩
    · exact hne (by rw [e, h1])
    · rw [h1] at e
      have := Option.some.inj e
      omega
  · rcases k.new with h1 | ⟨g, h1, h2⟩
    · rw [h1]; exact h.new
    · exact .inr ⟨g, h1, Nat.le_trans h.by_.size h2⟩
theorem Grows.alloc (w : World) (v : Value) (o : Obj) : Grows w (w.alloc o) v v := ⟨World.grownBy_alloc _ _ _, .inl rfl⟩
theorem Grows.below {base : Nat} {w0 w w' : World} {v v' : Value} (h : Grows w w' v v') (hb : Below base w0 w) (hw : base ≤ w.heap.size) (hv : ∀ k, v.ownBlock = some k → base ≤ k) : Below base w0 w' :=
  hb.grown h.by_ hw hv
theorem Grows.block {w w' : World} {v v' : Value} (h : Grows w w' v v') {k : Nat} (hk : k < w.heap.size) (hne : v.ownBlock ≠ some k) : w'.heap[k]? = w.heap[k]? := h.by_.block k hk (fun e => hne e.symm)
theorem run_append_grows {P : Program} {w : World} (ty : TypeId) {t e : TypeId} {i : TypeInfo} {z : Value} {size bytes : Nat} (ht : P.underlying t = some (.slice e)) (hi : P.info? e = some i) (hz : i.zero = some z)
    (hsize : i.size = size) (hby : i.bytes = bytes) (hzs : z.cells.size = size) (hsz : 0 < size) (base : Nat) (v : Value) (n : Nat) (xs : List Value) (hown : w.ownsRow base e size v n xs)
    (b o m c : Nat) (news : List Value) (hl : news.length = m * size) (hnews : ∀ j u, news[j]? = some u → w.cell? ⟨b, o + j, none⟩ = some u) (h1 : ∀ u ∈ news, u.oneCell' = true)
    (h63 : n + m ≤ maxLen) (hbytes : (n + m) * bytes ≤ 140737488355328) (hbase : base ≤ w.heap.size) :
    ∃ v' w', (Builtin.append_ #[t, t] ty #[v, .slice (some ⟨b, o, none⟩) m c]).run P w = .ok v' w' ∧ w'.ownsRow base e size v' (n + m) (xs ++ news) ∧ Grows w w' v v' := by
  obtain ⟨v', w', r1, r2, r3, _, r5⟩ := run_append_own_at (P := P) w base t ty e i z size bytes ht hi hz hsize hby hzs hsz v n xs hown ⟨b, o, none⟩ m c news hl (fun j u hu => by rw [Addr.add_lit]; exact hnews j u hu) h1 h63 hbytes hbase
  refine ⟨v', w', r1, r2, r3, ?_⟩
  rcases r5 with h | h
  · exact .inl h
  · exact .inr ⟨_, h, Nat.le_refl _⟩
theorem run_append_byt {P : Program} {w : World} (ty : TypeId) {t e : TypeId} (T : ByT P t e) (base : Nat) (v : Value) (n : Nat) (xs : List Value) (hown : w.ownsRow base e 1 v n xs) (xv : Value) (l : List Nat) (hl : Bytes w xv l)
    (hbytes : n + l.length ≤ 140737488355328) (hbase : base ≤ w.heap.size) :
    ∃ v' w', (Builtin.append_ #[t, t] ty #[v, xv]).run P w = .ok v' w' ∧ w'.ownsRow base e 1 v' (n + l.length) (xs ++ cellsOf l) ∧ Grows w w' v v' := by
  obtain ⟨i, hi, hz, hz1, hz2⟩ := info_parts T.info
  rcases hl.out with ⟨rfl, rfl⟩ | ⟨ad, rfl, rfl⟩ | ⟨b, off, cap, rfl, hcap, hc⟩
  · exact ⟨v, w, run_append_owned_none (P := P) (w := w) base t ty e i 1 T.slice hi v n xs hown, by simpa [cellsOf] using hown, Grows.refl _ _⟩
  · obtain ⟨v', w', r1, r2, r3, _, r5⟩ := run_append_own_at (P := P) w base t ty e i (.int .u8 0) 1 1 T.slice hi hz hz1 hz2 rfl (by omega) v n xs hown ad 0 0 [] rfl (by simp) (by simp) (by simp at hbytes; unfold maxLen; omega) (by simpa using hbytes) hbase
    refine ⟨v', w', r1, r2, r3, ?_⟩
    rcases r5 with h | h
    · exact .inl h
    · exact .inr ⟨_, h, Nat.le_refl _⟩
  · exact run_append_grows (P := P) (w := w) ty (z := .int .u8 0) T.slice hi hz hz1 hz2 rfl (by omega) base v n xs hown b off l.length cap (cellsOf l) (by rw [cellsOf_length, Nat.mul_one]) (by
      intro j u hu
      obtain ⟨hj, rfl⟩ := cellsOf_at hu
      exact hc j hj) (cellsOf_one l) (by unfold maxLen; omega) (by omega) hbase
end Go.By
