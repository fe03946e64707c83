/- Rows of bytes: what a value that reads as such is; appending one to a row of one's own. Over whatever program. -/
import Derived.WalkKit
import Derived.ProofKit
import Derived.Handy
import Derived.Lib.Hide
import Derived.Laws.AppendOwnNone
import Derived.Test.YtajfcnaifegonaaCrc
import Derived.ChangeSame
import Derived.ChangeMaps
import Derived.Carry
import Derived.OpenShut
namespace Go.By
open Go Go.RowKit
def atB (l : List Nat) (i : Nat) : Nat := l.getD i 0
theorem atB_of {l : List Nat} {i : Nat} (h : i < l.length) : atB l i = l[i] := by
  unfold atB; rw [List.getD_eq_getElem?_getD, List.getElem?_eq_getElem h]; rfl
def cellsOf (l : List Nat) : List Value := l.map fun (c : Nat) => .int .u8 c
theorem cellsOf_length (l : List Nat) : (cellsOf l).length = l.length := by simp [cellsOf]
theorem cellsOf_append (l m : List Nat) : cellsOf (l ++ m) = cellsOf l ++ cellsOf m := by simp [cellsOf]
theorem cellsOf_one (l : List Nat) : ∀ u ∈ cellsOf l, u.oneCell' = true := by
  intro u hu
  obtain ⟨_, _, rfl⟩ := List.mem_map.1 hu
  rfl
theorem cellsOf_at {l : List Nat} {i : Nat} {u : Value} (h : (cellsOf l)[i]? = some u) : i < l.length ∧ u = .int .u8 (atB l i : Nat) := by
  unfold cellsOf at h
  rw [List.getElem?_map] at h
  obtain ⟨c, hc, rfl⟩ := Option.map_eq_some_iff.1 h
  obtain ⟨hi, rfl⟩ := List.getElem?_eq_some_iff.1 hc
  exact ⟨hi, by rw [atB_of hi]⟩
theorem cellsOf_get {l : List Nat} {i : Nat} (h : i < l.length) : (cellsOf l)[i]? = some (.int .u8 (atB l i : Nat)) := by
  unfold cellsOf
  rw [List.getElem?_map, List.getElem?_eq_getElem h, atB_of h]; rfl
structure Bytes (w : World) (v : Value) (l : List Nat) : Prop where
  out : (v = .slice none 0 0 ∧ l = []) ∨ (∃ a, v = .slice (some a) 0 0 ∧ l = []) ∨ ∃ b off cap, v = .slice (some ⟨b, off, none⟩) l.length cap ∧ l.length ≤ cap ∧ ∀ i : Nat, i < l.length → w.cell? ⟨b, off + i, none⟩ = some (.int .u8 (atB l i : Nat))
  small : ∀ c ∈ l, c < 256
  short : l.length ≤ maxLen
theorem Bytes.any {w : World} {v : Value} {l : List Nat} (h : Bytes w v l) :
    ∃ p cap, v = .slice p l.length cap ∧ ∀ i : Nat, i < l.length → ∃ b off, p = some ⟨b, off, none⟩ ∧ w.cell? ⟨b, off + i, none⟩ = some (.int .u8 (atB l i : Nat)) := by
  rcases h.out with ⟨rfl, rfl⟩ | ⟨a, rfl, rfl⟩ | ⟨b, off, cap, rfl, _, hc⟩
  · exact ⟨none, 0, rfl, fun i hi => by simp at hi⟩
  · exact ⟨some a, 0, rfl, fun i hi => by simp at hi⟩
  · exact ⟨_, cap, rfl, fun i hi => ⟨b, off, rfl, hc i hi⟩⟩
theorem Bytes.spot {w : World} {p : Option Addr} {n cap : Nat} {l : List Nat} (h : Bytes w (.slice p n cap) l) (i : Nat) (hi : i < l.length) :
    ∃ b off, p = some ⟨b, off, none⟩ ∧ w.cell? ⟨b, off + i, none⟩ = some (.int .u8 (atB l i : Nat)) := by
  obtain ⟨p', cap', e, hc⟩ := h.any
  simp only [Value.slice.injEq] at e
  obtain ⟨rfl, _, _⟩ := e
  exact hc i hi
theorem Bytes.room {w : World} {p : Option Addr} {n cap : Nat} {l : List Nat} (h : Bytes w (.slice p n cap) l) : l.length = n ∧ n ≤ cap := by
  rcases h.out with ⟨h1, rfl⟩ | ⟨a, h1, rfl⟩ | ⟨b, off, cap', h1, h2, _⟩
  · simp only [Value.slice.injEq] at h1
    simp; omega
  · simp only [Value.slice.injEq] at h1
    simp; omega
  · simp only [Value.slice.injEq] at h1
    omega
theorem Bytes.at_lt {w : World} {v : Value} {l : List Nat} (h : Bytes w v l) {i : Nat} (hi : i < l.length) : atB l i < 256 := by
  rw [atB_of hi]; exact h.small _ (List.getElem_mem hi)
theorem Bytes.below {w w' : World} {v : Value} {l : List Nat} (h : Bytes w v l) (hb : Below w.heap.size w w') : Bytes w' v l where
  out := by
    rcases h.out with h1 | h1 | ⟨b, off, cap, rfl, h2, hc⟩
    · exact .inl h1
    · exact .inr (.inl h1)
    · exact .inr <| .inr ⟨b, off, cap, rfl, h2, fun i hi => (hb.cell (p := ⟨b, off + i, none⟩) (block_lt_of_cell (hc i hi))).trans (hc i hi)⟩
  small := h.small
  short := h.short
theorem Bytes.under {B : Nat} {w w' : World} {v : Value} {l : List Nat} (h : Bytes w v l) (hv : ∀ k, v.ownBlock = some k → k < B) (hb : Below B w w') : Bytes w' v l where
  out := by
    rcases h.out with h1 | h1 | ⟨b, off, cap, rfl, h2, hc⟩
    · exact .inl h1
    · exact .inr (.inl h1)
    · exact .inr <| .inr ⟨b, off, cap, rfl, h2, fun i hi => (hb.cell (p := ⟨b, off + i, none⟩) (hv b rfl)).trans (hc i hi)⟩
  small := h.small
  short := h.short
theorem Bytes.of_owns {w : World} {base : Nat} {e : TypeId} {v : Value} {n : Nat} {l : List Nat} (h : w.ownsRow base e 1 v n (cellsOf l)) (hs : ∀ c ∈ l, c < 256) (hm : l.length ≤ maxLen) : Bytes w v l where
  out := by
    have hl := h.1
    rw [cellsOf_length] at hl
    rcases h.2 with ⟨rfl, rfl⟩ | ⟨g, cap, cur, rfl, _, hg, hnc, _, _, _⟩
    · exact .inl ⟨rfl, List.eq_nil_of_length_eq_zero (by omega)⟩
    · refine .inr <| .inr ⟨g, 0, cap, by rw [hl, Nat.mul_one], by omega, fun i hi => ?_⟩
      have := h.cells (g := g) rfl i _ (cellsOf_get hi)
      rw [Addr.add_lit] at this
      exact this
  small := hs
  short := hm
structure ByT (P : Program) (t e : TypeId) : Prop where
  slice : P.underlying t = some (.slice e)
  elem : P.underlying e = some (.int .u8)
  info : (P.info? e).map (fun i => (i.zero, i.size, i.bytes)) = some (some (.int .u8 0), 1, 1)
theorem wpList_append_bytes {P : Program} {w : World} {ops : Array Oper} {rest : List Oper} {o : Oper} {a : Act} {Q : Exit → Act → World → Prop} (hgd : o.guard = none) (s x : Operand) {t e : TypeId} (T : ByT P t e)
    (ho : o.op = .call { callee := .builtin .append, args := #[s, x], argTypes := #[t, t] })
    (base : Nat) (v : Value) (n : Nat) (xs : List Value) (hs : a.eval s = v) (hown : w.ownsRow base e 1 v n xs) (xv : Value) (l : List Nat) (hx : a.eval x = xv) (hl : Bytes w xv l)
    (hbytes : n + l.length ≤ 140737488355328) (hbase : base ≤ w.heap.size)
    (h : ∀ v' w', w'.ownsRow base e 1 v' (n + l.length) (xs ++ cellsOf l) → w.grownBy w' v.ownBlock → (v' = .slice none 0 0 ↔ v = .slice none 0 0 ∧ l.length = 0) → wpList P ops Q rest (a.put o.dst v') w') :
    wpList P ops Q (o :: rest) a w := by
  obtain ⟨i, hi, hz, hz1, hz2⟩ := info_parts T.info
  rcases hl.out with ⟨rfl, rfl⟩ | ⟨ad, rfl, rfl⟩ | ⟨b, off, cap, rfl, hcap, hc⟩
  · refine wpList_append_own_none hgd s x t ho base e i 1 T.slice hi v n xs hs hown hx (h v w ?_ (World.grownBy.refl _ _) (by simp))
    simpa [cellsOf] using hown
  · exact wpList_append_own w hgd s x t ho base e i (.int .u8 0) 1 1 T.slice hi hz hz1 hz2 rfl (by omega) v n xs hs hown ad 0 0 [] hx rfl (by simp) (by simp) (by simp at hbytes; unfold maxLen; omega) (by simpa using hbytes) hbase h
  · refine wpList_append_own w hgd s x t ho base e i (.int .u8 0) 1 1 T.slice hi hz hz1 hz2 rfl (by omega) v n xs hs hown ⟨b, off, none⟩ l.length cap (cellsOf l) hx ?_ ?_ (cellsOf_one l) ?_ ?_ hbase h
    · rw [cellsOf_length, Nat.mul_one]
    · intro j u hu
      obtain ⟨hj, rfl⟩ := cellsOf_at hu
      rw [Addr.add_lit]; exact hc j hj
    · unfold maxLen; omega
    · omega
def strOf (l : List Nat) : ByteArray := strOfNums (l.map fun (c : Nat) => (c : Int))
theorem Bytes.toString {P : Program} {t e : TypeId} (T : ByT P t e) {w : World} {v : Value} {l : List Nat} (h : Bytes w v l) {d : TypeId} (hd : P.underlying d = some .string) :
    (convert t d v).run P w = .ok (.string (strOf l)) w := by
  rcases h.out with ⟨rfl, rfl⟩ | ⟨a, rfl, rfl⟩ | ⟨b, off, cap, rfl, _, hc⟩
  · exact run_convert_bytes_nil w t e T.slice T.elem 0 0 d hd
  · rw [run_convert_bytes_string w t d e (some a) 0 0 T.slice T.elem hd, run_bytesToString w a 0 0 [] (by simpa using run_loadCells_list (P := P) w a [] (by simp))]
    rfl
  · refine run_convert_bytes_arg w t e T.slice T.elem b off l.length cap _ (by simp) (fun i hi => ?_) d hd
    rw [hc i hi]
    simp [atB_of hi, hi]
theorem atB_take {l : List Nat} {n i : Nat} (h : i < n) : atB (l.take n) i = atB l i := by
  unfold atB
  rw [List.getD_eq_getElem?_getD, List.getD_eq_getElem?_getD, List.getElem?_take, if_pos h]
theorem Bytes.upto {w : World} {p : Option Addr} {l : List Nat} {cap n : Nat} (h : Bytes w (.slice p l.length cap) l) (hn : n ≤ l.length) : Bytes w (.slice p n cap) (l.take n) where
  out := by
    have hl : (l.take n).length = n := by rw [List.length_take]; omega
    rcases h.out with ⟨h1, rfl⟩ | ⟨a, h1, rfl⟩ | ⟨b, off, cap', h1, h2, hc⟩
    · simp only [Value.slice.injEq] at h1
      simp only [List.length_nil, Nat.le_zero_eq] at hn
      exact .inl ⟨by rw [hn, h1.1, h1.2.2], by simp⟩
    · simp only [Value.slice.injEq] at h1
      simp only [List.length_nil, Nat.le_zero_eq] at hn
      exact .inr (.inl ⟨a, by rw [hn, h1.1, h1.2.2], by simp⟩)
    · simp only [Value.slice.injEq, true_and] at h1
      refine .inr (.inr ⟨b, off, cap, by rw [hl, h1.1], by omega, fun i hi => ?_⟩)
      rw [hl] at hi
      rw [hc i (by omega), atB_take hi]
  small := fun c hc => h.small c (List.mem_of_mem_take hc)
  short := by
    have := h.short
    rw [List.length_take]; omega
theorem cellsOf_set (l : List Nat) (i x : Nat) : (cellsOf l).set i (.int .u8 x) = cellsOf (l.set i x) := by
  simp [cellsOf, List.map_set]
theorem Bytes.nil (w : World) : Bytes w (.slice none 0 0) [] := ⟨.inl ⟨rfl, rfl⟩, by simp, by simp⟩
theorem cell_new (w : World) (c : Array Value) (e : TypeId) (fr : Nat × Nat) (i : Nat) : (w.alloc (.cells c e fr)).cell? ⟨w.heap.size, i, none⟩ = c[i]? := by
  have h : (w.alloc (.cells c e fr)).heap[w.heap.size]? = some (.cells c e fr) := by
    show (w.heap.push (.cells c e fr))[w.heap.size]? = _
    simp
  simp only [World.cell?, h]; rfl
theorem Bytes.lit {w : World} {e : TypeId} {c : Array Value} {fr : Nat × Nat} (l : List Nat) (hc : c = (cellsOf l).toArray) {n : Nat} (hn : n = l.length) (hs : ∀ c ∈ l, c < 256) (hm : l.length ≤ maxLen) :
    Bytes (w.alloc (.cells c e fr)) (.slice (some ⟨w.heap.size, 0, none⟩) n n) l where
  out := .inr <| .inr ⟨w.heap.size, 0, l.length, by rw [hn], Nat.le_refl _, fun i hi => by
    rw [cell_new, hc, List.getElem?_toArray, Nat.zero_add]; exact cellsOf_get hi⟩
  small := hs
  short := hm
theorem Bytes.one {w : World} {e : TypeId} {n : Int} {x : Nat} (hn : n = x) (hx : x < 256) : Bytes (w.alloc (.cells #[.int .u8 n] e)) (.slice (some ⟨w.heap.size, 0, none⟩) 1 1) [x] where
  out := .inr <| .inr ⟨w.heap.size, 0, 1, rfl, Nat.le_refl _, fun i hi => by
    obtain rfl : i = 0 := by simp at hi; exact hi
    rw [World.cell?_alloc_new, hn]; rfl⟩
  small := by intro c hc; simp at hc; omega
  short := by simp [maxLen]
end Go.By
/- Bytes of which some in a row are turned. Plain arithmetic. -/
namespace Go.By
open Go
def turn (l : List Nat) (f : Nat → Nat) : List Nat := (List.range l.length).map fun j => atB l j ^^^ f j
def any (g : Nat → Nat) : Nat → Bool
  | 0 => false
  | i + 1 => any g i || (g i != 0)
end Go.By
/- Numbers as bytes, the highest first; records as rows of bytes. Plain. -/
namespace Go.By
open Go
def numOf (l : List Nat) : Nat := l.foldl (fun n c => n * 256 + c) 0
def highOf (v : Nat) : Nat → List Nat
  | 0 => []
  | n + 1 => highOf (v / 256) n ++ [v % 256]
theorem highOf_length (v n : Nat) : (highOf v n).length = n := by
  induction n generalizing v with
  | zero => rfl
  | succ n ih => simp [highOf, ih]
theorem highOf_small (v n : Nat) : ∀ c ∈ highOf v n, c < 256 := by
  induction n generalizing v with
  | zero => simp [highOf]
  | succ n ih =>
    intro c hc
    simp only [highOf, List.mem_append, List.mem_singleton] at hc
    rcases hc with hc | rfl
    · exact ih _ c hc
    · omega
theorem numOf_snoc (l : List Nat) (c : Nat) : numOf (l ++ [c]) = numOf l * 256 + c := by simp [numOf]
theorem numOf_high (n : Nat) : ∀ v, v < 256 ^ n → numOf (highOf v n) = v := by
  induction n with
  | zero => intro v h; simp at h; subst h; rfl
  | succ n ih =>
    intro v h
    rw [highOf, numOf_snoc, ih _ (by rw [Nat.pow_succ] at h; omega)]
    omega
theorem snoc_ind {p : List Nat → Prop} (h0 : p []) (h1 : ∀ l c, p l → p (l ++ [c])) (l : List Nat) : p l := by
  rw [← List.reverse_reverse l]
  induction l.reverse with
  | nil => exact h0
  | cons c l ih => rw [List.reverse_cons]; exact h1 _ _ ih
theorem numOf_lt (l : List Nat) (h : ∀ c ∈ l, c < 256) : numOf l < 256 ^ l.length := by
  revert h
  refine snoc_ind (p := fun l => (∀ c ∈ l, c < 256) → numOf l < 256 ^ l.length) ?_ ?_ l
  · intro _; simp [numOf]
  · intro l c ih h
    have h1 := ih (fun x hx => h x (by simp [hx]))
    have h2 := h c (by simp)
    rw [numOf_snoc, List.length_append, List.length_singleton, Nat.pow_succ]
    omega
theorem high_numOf (l : List Nat) (h : ∀ c ∈ l, c < 256) : highOf (numOf l) l.length = l := by
  revert h
  refine snoc_ind (p := fun l => (∀ c ∈ l, c < 256) → highOf (numOf l) l.length = l) ?_ ?_ l
  · intro _; rfl
  · intro l c ih h
    have h1 := ih (fun x hx => h x (by simp [hx]))
    have h2 := h c (by simp)
    rw [numOf_snoc, List.length_append, List.length_singleton, highOf]
    rw [show (numOf l * 256 + c) / 256 = numOf l by omega, show (numOf l * 256 + c) % 256 = c by omega, h1]
theorem high4 (n : Nat) : highOf n 4 = [n / 16777216 % 256, n / 65536 % 256, n / 256 % 256, n % 256] := by
  simp [highOf, Nat.div_div_eq_div_mul]
def pc (l : List Nat) (at' n : Nat) : List Nat := (l.drop at').take n
theorem pc_length {l : List Nat} {i n : Nat} (h : i + n ≤ l.length) : (pc l i n).length = n := by simp [pc]; omega
theorem pc_small {l : List Nat} {i n : Nat} (h : ∀ c ∈ l, c < 256) : ∀ c ∈ pc l i n, c < 256 := fun c hc => h c (List.mem_of_mem_drop (List.mem_of_mem_take hc))
theorem pc_at {l : List Nat} {i n j : Nat} (h : j < n) : atB (pc l i n) j = atB l (i + j) := by
  unfold atB pc
  simp [List.getD, h]
theorem pc_left {l m : List Nat} {i n : Nat} (h : i + n ≤ l.length) : pc (l ++ m) i n = pc l i n := by
  unfold pc
  rw [List.drop_append, List.take_append]
  simp; omega
def recHead (k : Nat) (b : List Nat) : List Nat := highOf b.length 4 ++ ([k] ++ b)
def recOf (k : Nat) (b : List Nat) : List Nat := recHead k b ++ highOf (Crc.sum (recHead k b)) 4
theorem recHead_length (k : Nat) (b : List Nat) : (recHead k b).length = 5 + b.length := by simp [recHead, highOf_length]; omega
theorem recOf_length (k : Nat) (b : List Nat) : (recOf k b).length = 9 + b.length := by simp [recOf, highOf_length, recHead_length]; omega
theorem recHead_small {k : Nat} {b : List Nat} (hk : k < 256) (hb : ∀ c ∈ b, c < 256) : ∀ c ∈ recHead k b, c < 256 := by
  intro c hc
  simp only [recHead, List.mem_append, List.mem_singleton] at hc
  rcases hc with hc | rfl | hc
  · exact highOf_small _ _ c hc
  · exact hk
  · exact hb c hc
theorem recOf_small {k : Nat} {b : List Nat} (hk : k < 256) (hb : ∀ c ∈ b, c < 256) : ∀ c ∈ recOf k b, c < 256 := by
  intro c hc
  simp only [recOf, List.mem_append] at hc
  rcases hc with hc | hc
  · exact recHead_small hk hb c hc
  · exact highOf_small _ _ c hc
def bodyLen (l : List Nat) : Nat := numOf (pc l 0 4)
def partOk (l : List Nat) : Nat → Bool
  | 0 => decide (4 ≤ l.length) && decide (bodyLen l ≤ 4096)
  | 1 => decide (5 ≤ l.length)
  | 2 => decide (5 + bodyLen l ≤ l.length)
  | _ => decide (9 + bodyLen l ≤ l.length) && (numOf (pc l (5 + bodyLen l) 4) == Crc.sum (l.take (5 + bodyLen l)))
def isRec (l : List Nat) : Bool := partOk l 0 && partOk l 1 && partOk l 2 && partOk l 3
theorem bodyLen_rec (k : Nat) (b m : List Nat) (hb : b.length ≤ 4096) : bodyLen (recOf k b ++ m) = b.length := by
  have : pc (recOf k b ++ m) 0 4 = highOf b.length 4 := by
    unfold pc recOf recHead
    simp only [List.drop_zero, List.append_assoc]
    rw [List.take_append, highOf_length]
    simp [List.take_of_length_le, highOf_length]
  rw [bodyLen, this, numOf_high]
  omega
theorem take_rec (k : Nat) (b m : List Nat) : (recOf k b ++ m).take (5 + b.length) = recHead k b := by
  rw [recOf, List.append_assoc, List.take_append, recHead_length]
  simp [List.take_of_length_le, recHead_length]
theorem isRec_rec {k : Nat} {b m : List Nat} (hk : k < 256) (hb : b.length ≤ 4096) (hs : ∀ c ∈ b, c < 256) : isRec (recOf k b ++ m) = true := by
  have h1 := bodyLen_rec k b m hb
  have h2 := recOf_length k b
  have h3 : pc (recOf k b ++ m) (5 + b.length) 4 = highOf (Crc.sum (recHead k b)) 4 := by
    unfold pc recOf
    rw [List.append_assoc, List.drop_append, recHead_length]
    simp [List.drop_of_length_le, recHead_length, highOf_length]
  have h4 : numOf (highOf (Crc.sum (recHead k b)) 4) = Crc.sum (recHead k b) := numOf_high 4 _ (Crc.sum_lt _ (recHead_small hk hs))
  simp only [isRec, partOk, h1, take_rec, h3, h4, List.length_append, h2]
  simp; omega
theorem kind_rec (k : Nat) (b m : List Nat) : atB (recOf k b ++ m) 4 = k := by
  unfold atB recOf recHead
  rw [high4]; simp
theorem body_rec (k : Nat) (b m : List Nat) : pc (recOf k b ++ m) 5 b.length = b := by
  unfold pc recOf recHead
  rw [high4]; simp
end Go.By
/- What a law's row asks of a call that returns true and leaves what was there as it was; and what its arguments are. Over whatever program. -/
namespace Go.By
open Go Go.RowKit Go.WideShapes Go.ChangeShapes Go.ChangeAt
section
variable {H : Type} {enc : TypeId × Value → H} {P : Program}
theorem trodAll_stays (hl : laidOutB P = true) {W W' : World} {sp' : Nat → Bool} : ∀ (ts : List TypeId), (∀ t ∈ ts, P.readableRec t = true ∧ t < P.types.size) → ∀ {vs : List Value} {ds : List (DataW H)} {ps : List MemPlace},
    DataW.TrodAll enc P W 0 (fun _ => true) true ts vs ds ps → (∀ p ∈ ps, W.sameAt W' p) → (∀ p ∈ ps, sp' p.block = true) → DataW.TrodAll enc P W' 0 sp' true ts vs ds ps
  | [], _, vs, ds, ps, h, _, _ => by
    obtain ⟨rfl, rfl, rfl⟩ := trodAll_nil h
    exact trodAll_mk0
  | t :: ts, ht, vs, ds, ps, h, h1, h2 => by
    obtain ⟨v, vs', d, ds', p, q, rfl, rfl, rfl, h3, h4⟩ := trodAll_cons h
    have hr := ht t (by simp)
    exact ⟨p, q, WideElems.Trod_stays hl hr.1 hr.2 h3 (fun x hx => h1 x (by simp [hx])) (fun x hx => h2 x (by simp [hx])),
      trodAll_stays hl ts (fun t ht' => ht t (by simp [ht'])) h4 (fun x hx => h1 x (by simp [hx])) (fun x hx => h2 x (by simp [hx])), rfl⟩
theorem law_post {f : Func} {s : ChangeSpec} {apart fresh handsOn again : Bool} {W W' : World} {args : Array Value} {ds : List (DataW H)} {before : List MemPlace} {tb : TypeId}
    (hl : laidOutB P = true) (hr : ∀ t ∈ f.params.toList, P.readableRec t = true ∧ t < P.types.size) (hv : s.vars = []) (hfn : s.fn H ds = { results := [.lit (.bool true)], args := ds }) (hrt : f.resultTypes = #[tb]) (htb : P.underlying tb = some .bool)
    (hW : DataW.Whole enc P f.params.toList s.vars apart W args.toList ds [] before) (hb : Below W.heap.size W W') : s.post enc P f apart fresh handsOn again W args (.bool true) W' := by
  have hlt : ∀ p ∈ before, p.block < W.heap.size := fun p hp => hW.lt p hp
  have hW' := hW
  obtain ⟨pa, pv, hA, hV, hbe, hz, hn⟩ := hW
  rw [hv] at hV
  obtain ⟨_, rfl⟩ := trodVars_none hV
  rw [List.append_nil] at hbe
  subst hbe
  have hsame : ∀ p ∈ before, W.sameAt W' p := fun p hp => hb.same (hlt p hp)
  have hargs : ∀ sp : Nat → Bool, (∀ p ∈ before, sp p.block = true) → DataW.TrodAll enc P W' 0 sp true f.params.toList args.toList (s.fn H (ds ++ [])).args before := fun sp hsp => by
    rw [List.append_nil, hfn]
    exact trodAll_stays hl _ hr hA hsame hsp
  have hres : ∀ (b : Nat) (sp : Nat → Bool) (hd : Bool), DataW.TrodAll enc P W' b sp hd f.resultTypes.toList ((Value.bool true).resultList f.resultTypes.size) (s.fn H (ds ++ [])).results [] := fun b sp hd => by
    rw [List.append_nil, hfn, hrt]
    exact trodAll_mk1 (shut_bool htb true)
  have hvars : ∀ sp : Nat → Bool, DataW.TrodVars enc P W' sp s.vars (s.fn H (ds ++ [])).vars [] := fun sp => by
    rw [List.append_nil, hfn, hv]
    rfl
  have hok : ∀ (j : Nat) (t : TypeId) (r : Value), f.resultTypes[j]? = some t → ((Value.bool true).resultList f.resultTypes.size)[j]? = some r → Value.okWide P W' .any 0 t r := by
    exact ok_one (t := tb) hrt rfl (okWide_bool_mk htb true)
  have hold : ∀ p ∈ before, (fun b => decide (b < W.heap.size)) p.block = true := fun p hp => by simpa using hlt p hp
  refine ⟨ds, [], before, [], before, [], hW', hres _ _ _, hargs _ hold, hvars _, World.keptBut_mono (fun p hp => ⟨hp, ?_⟩) (hb.frame (· ∈ before)), fun _ => ?_⟩
  · exact .inr (.inl hp)
  · refine ⟨hok, _, _, ([] ++ before) ++ [], ⟨[] ++ before, [], trodAll_append (hargs _ (fun _ _ => rfl)) (hres _ _ _), hvars _, rfl, ?_, ?_⟩, ?_⟩
    · intro b off hp
      have hin : MemPlace.cell b off ∈ before := by simpa using hp
      rw [hb.frozen (hlt _ hin)]
      exact hz b off hin
    · intro ha
      have := hn ha
      simpa using this
    · intro p hp _
      simpa using hp
end
end Go.By
/- A record of which a byte is turned is none. Plain. -/
namespace Go.By
open Go
end Go.By
/- Slots as rows of bytes. Plain. -/
namespace Go.By
open Go
def slotHead (g : Nat) (b : List Nat) : List Nat := [80, 68] ++ (highOf g 8 ++ (b.length :: (b ++ List.replicate (113 - b.length) 0)))
def slotOf (g : Nat) (b : List Nat) : List Nat := slotHead g b ++ highOf (Crc.sum (slotHead g b)) 4
theorem slotHead_length {g : Nat} {b : List Nat} (h : b.length ≤ 113) : (slotHead g b).length = 124 := by simp [slotHead, highOf_length]; omega
theorem slotOf_length {g : Nat} {b : List Nat} (h : b.length ≤ 113) : (slotOf g b).length = 128 := by simp [slotOf, highOf_length, slotHead_length h]
def slotSize (l : List Nat) : Nat := atB l 10
def spOk (l : List Nat) : Nat → Bool
  | 0 => decide (l.length = 128)
  | 1 => pc l 0 2 == [80, 68]
  | 2 => decide (slotSize l ≤ 113)
  | 3 => (pc l (11 + slotSize l) (113 - slotSize l)).all (· == 0)
  | _ => numOf (pc l 124 4) == Crc.sum (l.take 124)
def isSlot (l : List Nat) : Bool := spOk l 0 && (spOk l 1 && (spOk l 2 && (spOk l 3 && spOk l 4)))
end Go.By
