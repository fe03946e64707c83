/- Trees in a program: a file of which one reads; what is read. -/
import Derived.Test.YtajfcnaifegonaaMTrX
import Derived.Test.YtajfcnaifegonaaMTrW
import Derived.Test.YtajfcnaifegonaaMFlG
import Derived.Test.YtajfcnaifegonaaMFlM
import Derived.Test.YtajfcnaifegonaaMBkA
import Derived.Test.YtajfcnaifegonaaMTrR
import Derived.Test.YtajfcnaifegonaaMSlB
import Derived.Deep.RegionLaw
namespace Go.By
open Go Go.RowKit
end Go.By
namespace Go.Proofs.Ytajfcnaifegonaa.Sl.Nd
open Go Go.RowKit Go.By
structure FS where
  s : ByteArray
  R : Int
  kp : List (ByteArray × Nat)
  ld : List NameOp
  K : List Nat
  K0 : List Nat
  os : List ByteOp
def FS.sk (F : FS) (o : Nat) : Sk := oneF F.s F.R o 0 F.kp F.ld F.K F.K0 F.os
structure FS.Ok (F : FS) : Prop where
  name : mayName F.s = true
  size : F.s.size ≤ maxLen
  room : 0 ≤ F.R ∧ F.R ≤ 1099511627776
  len : F.K.length ≤ 1048576
  ld : F.ld.length < 1000000
  os : F.os.length < 1000000
theorem FS.fine {F : FS} (h : F.Ok) {o : Nat} (ho : o < 4611686018427387904) : (F.sk o).Fine where
  ops := ho
  left := by show 0 < _; omega
  made := by show 1 < _; omega
  laid := h.ld
  few := fun n => by
    show (if n = 1 then (⟨F.K, F.K0, F.os⟩ : FileA) else noFile).laid.length < _
    split
    · exact h.os
    · show 0 < _; omega
  short := fun n => by
    have := h.len
    show (if n = 1 then (⟨F.K, F.K0, F.os⟩ : FileA) else noFile).seen.length ≤ _
    split
    · show F.K.length ≤ _; omega
    · show 0 ≤ _; omega
  room := by have := h.room; show 0 ≤ F.R ∧ F.R ≤ _; omega
  used := by have := h.len; show 0 ≤ (F.K.length : Int) ∧ (F.K.length : Int) ≤ _; omega
structure Tf (F : FS) (W : World) (g a o : Nat) (own : Own) (w : World) : Prop where
  disk : Dsk W a (F.sk o) own w
  file : Fil W g a F.s F.K.length own w
theorem Tf.stay {F : FS} {W w w' : World} {g a o : Nat} {own : Own} (h : Tf F W g a o own w) (hb : Below w.heap.size w w') : Tf F W g a o own w' := ⟨h.disk.stay hb, h.file.stay hb⟩
theorem Tf.small {F : FS} {W w : World} {g a o : Nat} {own : Own} (h : Tf F W g a o own w) : ∀ c ∈ F.K, c < 256 := h.disk.small (s := F.s) (n := 1) (get_one F.s 1)
end Go.Proofs.Ytajfcnaifegonaa.Sl.Nd
/- Trees in a program: the law's file. -/
namespace Go.Proofs.Ytajfcnaifegonaa.Sl.Nd
open Go Go.RowKit Go.By
def fsT (R : Int) (C : List Nat) (os : List ByteOp) : FS := ⟨tT, R, [], [.create tT 1], K3 zero128 zero128 C, [], os⟩
theorem fsT_len (R : Int) (C : List Nat) (os : List ByteOp) : (fsT R C os).K.length = 256 + C.length := K3_length zero128_length zero128_length
theorem fsT_ok {R : Int} {C : List Nat} {os : List ByteOp} (hR : 0 ≤ R ∧ R ≤ 1099511627776) (hC : C.length ≤ 1048000) (ho : os.length < 1000000) : (fsT R C os).Ok where
  name := tT_may
  size := by show tT.size ≤ maxLen; decide +kernel
  room := hR
  len := by rw [fsT_len]; omega
  ld := by show 1 < _; omega
  os := ho
theorem made_tf {R : Int} {W w : World} {g a : Nat} {own : Own} (hd : Dsk W a (oneF tT R 2 0 [] [.create tT 1] noughts256 [] [.cut 256]) own w) (hf : Fil W g a tT 256 own w) : Tf (fsT R [] [.cut 256]) W g a 2 own w := by
  rw [noughts_K3] at hd
  refine ⟨hd, ?_⟩
  rw [fsT_len]
  exact hf
end Go.Proofs.Ytajfcnaifegonaa.Sl.Nd
/- Rows made trees, in a program: what stands in memory: texts, rows, levels; what may turn. -/
namespace Go.Proofs.Ytajfcnaifegonaa.Sl.Nd
open Go Go.RowKit Go.By
structure Turns (g : Nat) (F : List Nat) (own own' : Own) (w w' : World) : Prop where
  os : w'.os = w.os
  tape : w'.tape = w.tape
  output : w'.output = w.output
  size : w.heap.size ≤ w'.heap.size
  block : ∀ k, k < w.heap.size → k ≠ g → k ∉ F → own k = none → w'.heap[k]? = w.heap[k]?
  text : ∀ k c fr, w.heap[k]? = some (.cells c 5 fr) → own k = none → w'.heap[k]? = w.heap[k]?
  same : ∀ k, k < w.heap.size → own' k = own k
theorem Turns.refl (g : Nat) (F : List Nat) (own : Own) (w : World) : Turns g F own own w w := ⟨rfl, rfl, rfl, Nat.le_refl _, fun _ _ _ _ _ => rfl, fun _ _ _ _ _ => rfl, fun _ _ => rfl⟩
theorem Turns.trans {g : Nat} {F F2 : List Nat} {own o1 o2 : Own} {w w1 w2 : World} (h : Turns g F own o1 w w1) (k : Turns g F2 o1 o2 w1 w2) (hF : ∀ x ∈ F2, x ∈ F ∨ w.heap.size ≤ x) : Turns g F own o2 w w2 := by
  refine ⟨k.os.trans h.os, k.tape.trans h.tape, k.output.trans h.output, Nat.le_trans h.size k.size, fun j hj hg hn ho => ?_, fun j c fr hj ho => ?_, fun j hj => (k.same j (Nat.lt_of_lt_of_le hj h.size)).trans (h.same j hj)⟩
  · refine (k.block j (Nat.lt_of_lt_of_le hj h.size) hg (fun hm => ?_) ((h.same j hj).trans ho)).trans (h.block j hj hg hn ho)
    rcases hF j hm with h1 | h1
    · exact hn h1
    · omega
  · have hl : j < w.heap.size := (Array.getElem?_eq_some_iff.1 hj).1
    have h1 := h.text j c fr hj ho
    exact (k.text j c fr (h1.trans hj) ((h.same j hl).trans ho)).trans h1
theorem Turns.mono {g : Nat} {F F2 : List Nat} {own o1 : Own} {w w1 : World} (h : Turns g F own o1 w w1) (hF : ∀ x ∈ F, x ∈ F2 ∨ w.heap.size ≤ x) : Turns g F2 own o1 w w1 :=
  ⟨h.os, h.tape, h.output, h.size, fun j hj hg hn ho => h.block j hj hg (fun hm => by
    rcases hF j hm with h1 | h1
    · exact hn h1
    · omega) ho, h.text, h.same⟩
theorem Turns.below {g : Nat} {F : List Nat} {own : Own} {w w' : World} (h : Below w.heap.size w w') : Turns g F own own w w' :=
  ⟨h.os, h.tape, h.output, h.size, fun j hj _ _ _ => h.block j hj, fun j _ _ hj _ => h.block j (Array.getElem?_eq_some_iff.1 hj).1, fun _ _ => rfl⟩
theorem Turns.moves {g : Nat} {F : List Nat} {own own' : Own} {w w' : World} (h : Moves g own own' w w') {c : Array Value} {T : TypeId} {fr : Nat × Nat} (hg : w.heap[g]? = some (.cells c T fr)) (hT : 5 ≠ T) : Turns g F own own' w w' :=
  ⟨h.os, h.tape, h.output, h.size, fun j hj hjg _ ho => h.block j hj hjg (.inl ho), fun j c' fr' hj ho => h.block j (Array.getElem?_eq_some_iff.1 hj).1 (fun e => by
    rw [e, hg] at hj
    simp only [Option.some.injEq, Obj.cells.injEq] at hj
    exact hT hj.2.1.symm) (.inl ho), h.same⟩
theorem Turns.only {g A : Nat} {F : List Nat} {own : Own} {w w' : World} (h : Only A w w') (hA : A ∈ F) {c : Array Value} {T : TypeId} {fr : Nat × Nat} (hc : w.heap[A]? = some (.cells c T fr)) (hT : 5 ≠ T) : Turns g F own own w w' :=
  ⟨h.os, h.tape, h.output, h.size, fun j hj _ hn _ => h.block j hj (fun e => hn (e ▸ hA)), fun j c' fr' hj _ => h.block j (Array.getElem?_eq_some_iff.1 hj).1 (fun e => by
    rw [e, hc] at hj
    simp only [Option.some.injEq, Obj.cells.injEq] at hj
    exact hT hj.2.1.symm), fun _ _ => rfl⟩
structure Sole (F : List Nat) (w w' : World) : Prop where
  os : w'.os = w.os
  tape : w'.tape = w.tape
  output : w'.output = w.output
  size : w.heap.size ≤ w'.heap.size
  block : ∀ k, k < w.heap.size → k ∉ F → w'.heap[k]? = w.heap[k]?
theorem Sole.below {F : List Nat} {w w' : World} (h : Below w.heap.size w w') : Sole F w w' := ⟨h.os, h.tape, h.output, h.size, fun k hk _ => h.block k hk⟩
theorem Sole.trans {F F2 : List Nat} {w w1 w2 : World} (h : Sole F w w1) (k : Sole F2 w1 w2) (hF : ∀ x ∈ F2, x ∈ F ∨ w.heap.size ≤ x) : Sole F w w2 :=
  ⟨k.os.trans h.os, k.tape.trans h.tape, k.output.trans h.output, Nat.le_trans h.size k.size, fun j hj hn => (k.block j (Nat.lt_of_lt_of_le hj h.size) (fun hm => by
    rcases hF j hm with h1 | h1
    · exact hn h1
    · omega)).trans (h.block j hj hn)⟩
theorem Sole.only {A : Nat} {F : List Nat} {w w' : World} (h : Only A w w') (hA : A ∈ F) : Sole F w w' := ⟨h.os, h.tape, h.output, h.size, fun k hk hn => h.block k hk (fun e => hn (e ▸ hA))⟩
theorem Sole.grows {F : List Nat} {w w' : World} {v v' : Value} (h : Grows w w' v v') (hF : ∀ k, v.ownBlock = some k → k ∈ F) : Sole F w w' := ⟨h.by_.os, h.by_.tape, h.by_.output, h.by_.size, fun k hk hn => h.block hk (fun e => hn (hF k e))⟩
theorem dsk_sole {W w w' : World} {a : Nat} {S : Sk} {own : Own} {F : List Nat} (h : Dsk W a S own w) (hg : Sole F w w') (hr : ∀ k ∈ F, own k = none ∧ W.heap.size ≤ k) : Dsk W a S own w' := by
  have hst : Steps (fun k => if k ∈ F then some .disk else none) (fun k => if k ∈ F then some .disk else none) w w' :=
    ⟨hg.os, hg.tape, hg.output, hg.size, fun k hk ho => hg.block k hk (fun e => by
      rw [if_pos e] at ho
      rcases ho with h | h <;> cases h), fun _ _ => rfl⟩
  obtain ⟨D, hd, hok, e⟩ := h.out
  refine ⟨⟨D, hd.beside hst (fun k r' hr' => .inl (if_neg (by intro e; rw [(hr k e).1] at hr'; cases hr'))), hok, e⟩, h.far, ?_⟩
  exact ⟨hg.os.trans h.below.os, hg.tape.trans h.below.tape, hg.output.trans h.below.output, Nat.le_trans h.below.size hg.size, fun k hk => (hg.block k (Nat.lt_of_lt_of_le hk h.below.size) (fun e => by have := (hr k e).2; omega)).trans (h.below.block k hk)⟩
def blk (v : Value) : List Nat := match v.ownBlock with
  | some k => [k]
  | none => []
theorem mem_blk {v : Value} {k : Nat} : k ∈ blk v ↔ v.ownBlock = some k := by
  unfold blk
  cases h : v.ownBlock with
  | none => simp
  | some j => simp [eq_comm]
theorem Turns.grows {g : Nat} {F : List Nat} {own : Own} {w w' : World} {v v' : Value} (h : Grows w w' v v') (hF : ∀ k ∈ blk v, k ∈ F) {e : TypeId} {s n : Nat} {xs : List Value} (hv : Tl w e s v n xs) (hT : 5 ≠ e) : Turns g F own own w w' :=
  ⟨h.by_.os, h.by_.tape, h.by_.output, h.by_.size, fun j hj _ hn _ => h.block hj (fun e => hn (hF j (mem_blk.2 e))), fun _j _c' _fr' hj _ => h.block (Array.getElem?_eq_some_iff.1 hj).1 (hv.ne hj (Ne.symm hT)), fun _ _ => rfl⟩
def TxtO (own : Own) (w : World) (v : Value) (l : List Nat) : Prop := Txt w 0 v l ∧ ∀ k, v.ownBlock = some k → own k = none
theorem TxtO.turns {g : Nat} {F : List Nat} {own own' : Own} {w w' : World} {v : Value} {l : List Nat} (h : TxtO own w v l) (ht : Turns g F own own' w w') : TxtO own' w' v l := by
  have hk : ∀ k, v.ownBlock = some k → ∃ cur, w.heap[k]? = some (.cells cur 5 (0, 0)) := fun k hk => (Tl.of_owns h.1.1).block hk
  refine ⟨⟨owns_stay h.1.1 (fun k he => ?_), h.1.2⟩, fun k he => ?_⟩
  · obtain ⟨cur, h1⟩ := hk k he
    exact ht.text k cur _ h1 (h.2 k he)
  · obtain ⟨cur, h1⟩ := hk k he
    exact (ht.same k (Array.getElem?_eq_some_iff.1 h1).1).trans (h.2 k he)
theorem TxtO.bytes {own : Own} {w : World} {v : Value} {l : List Nat} (h : TxtO own w v l) : Bytes w v l := h.1.bytes
theorem TxtO.nil (own : Own) (w : World) : TxtO own w (.slice none 0 0) [] := ⟨Txt.nil w 0, fun k hk => by cases hk⟩
theorem TxtO.of_new {own : Own} {w : World} {B : Nat} {v : Value} {l : List Nat} (h : w.ownsRow B 5 1 v l.length (cellsOf l)) (hs : ∀ c ∈ l, c < 256) (hl : l.length ≤ maxLen) (hn : ∀ k, B ≤ k → own k = none) : TxtO own w v l :=
  ⟨⟨owns_base h (Nat.zero_le _), hs, hl⟩, fun k hk => hn k (h.lt k hk).1⟩
def ItT (own : Own) (w : World) (v : Value) (its : List NIt) : Prop :=
  ∃ cs : List (Value × Value), cs.length = its.length ∧ Tl w 34 2 v its.length (cs.flatMap itCells) ∧ ∀ j (h : j < its.length) (h' : j < cs.length), TxtO own w cs[j].1 its[j].k ∧ TxtO own w cs[j].2 its[j].v
def KyT (own : Own) (w : World) (v : Value) (ks : List (List Nat)) : Prop :=
  ∃ cs : List Value, cs.length = ks.length ∧ Tl w 31 1 v ks.length cs ∧ ∀ j (h : j < ks.length) (h' : j < cs.length), TxtO own w cs[j] ks[j]
def KdT (w : World) (v : Value) (kids : List NKd) : Prop := Tl w 39 2 v kids.length (kids.flatMap kdCells) ∧ ∀ d ∈ kids, d.off ≤ 9223372036854775807 ∧ d.ct < 18446744073709551616
section
variable {g : Nat} {F : List Nat} {own own' : Own} {w w' : World} {v : Value}
theorem ItT.turns {its : List NIt} (h : ItT own w v its) (ht : Turns g F own own' w w') (hk : ∀ k, v.ownBlock = some k → w'.heap[k]? = w.heap[k]?) : ItT own' w' v its := by
  obtain ⟨cs, h1, h2, h3⟩ := h
  exact ⟨cs, h1, h2.stay hk, fun j hj hj' => ⟨(h3 j hj hj').1.turns ht, (h3 j hj hj').2.turns ht⟩⟩
theorem KyT.turns {ks : List (List Nat)} (h : KyT own w v ks) (ht : Turns g F own own' w w') (hk : ∀ k, v.ownBlock = some k → w'.heap[k]? = w.heap[k]?) : KyT own' w' v ks := by
  obtain ⟨cs, h1, h2, h3⟩ := h
  exact ⟨cs, h1, h2.stay hk, fun j hj hj' => (h3 j hj hj').turns ht⟩
theorem KdT.stay {kids : List NKd} (h : KdT w v kids) (hk : ∀ k, v.ownBlock = some k → w'.heap[k]? = w.heap[k]?) : KdT w' v kids := ⟨h.1.stay hk, h.2⟩
theorem ItT.nil : ItT own w (.slice none 0 0) [] := ⟨[], rfl, Tl.nil _ _ _, fun j h => by simp at h⟩
theorem KyT.nil : KyT own w (.slice none 0 0) [] := ⟨[], rfl, Tl.nil _ _ _, fun j h => by simp at h⟩
theorem KdT.nil : KdT w (.slice none 0 0) [] := ⟨Tl.nil _ _ _, by simp⟩
theorem ItT.row {its : List NIt} (h : ItT own w v its) : ∃ p c, v = .slice p its.length c ∧ RowAt KItem w p c its := by
  obtain ⟨cs, h1, h2, h3⟩ := h
  obtain ⟨p, cap, rfl, q1, q2, q3⟩ := h2.at_
  refine ⟨p, cap, rfl, q1, q2, fun j hj => ?_⟩
  have hj' : j < cs.length := by omega
  have e0 := flat_two (f := itCells) (fun _ => rfl) (xs := cs) (j := j) (i := 0) hj' (by decide)
  have e1 := flat_two (f := itCells) (fun _ => rfl) (xs := cs) (j := j) (i := 1) hj' (by decide)
  obtain ⟨b, off, rfl, c0⟩ := q3 _ cs[j].1 (by rw [e0]; rfl)
  obtain ⟨b', off', he, c1⟩ := q3 _ cs[j].2 (by rw [e1]; rfl)
  simp only [Option.some.injEq, Addr.mk.injEq, and_true] at he
  obtain ⟨rfl, rfl⟩ := he
  refine ⟨b, off, [cs[j].1, cs[j].2], rfl, fun i hi => ?_, cs[j].1, cs[j].2, rfl, (h3 j hj hj').1.bytes, (h3 j hj hj').2.bytes⟩
  match i, hi with
  | 0, _ => simpa [KItem] using c0
  | 1, _ => simpa [KItem, Nat.add_assoc] using c1
theorem KyT.row {ks : List (List Nat)} (h : KyT own w v ks) : ∃ p c, v = .slice p ks.length c ∧ RowAt KBytes w p c ks := by
  obtain ⟨cs, h1, h2, h3⟩ := h
  obtain ⟨p, cap, rfl, q1, q2, q3⟩ := h2.at_
  refine ⟨p, cap, rfl, q1, q2, fun j hj => ?_⟩
  have hj' : j < cs.length := by omega
  obtain ⟨b, off, rfl, c0⟩ := q3 j cs[j] (List.getElem?_eq_getElem hj')
  refine ⟨b, off, [cs[j]], rfl, fun i hi => ?_, cs[j], rfl, (h3 j hj hj').bytes⟩
  match i, hi with
  | 0, _ => simpa [KBytes] using c0
theorem KdT.row {kids : List NKd} (h : KdT w v kids) : ∃ p c, v = .slice p kids.length c ∧ RowAt KRef w p c kids := by
  obtain ⟨h2, h3⟩ := h
  obtain ⟨p, cap, rfl, q1, q2, q3⟩ := h2.at_
  refine ⟨p, cap, rfl, q1, q2, fun j hj => ?_⟩
  have e0 := flat_two (f := kdCells) (fun _ => rfl) (xs := kids) (j := j) (i := 0) hj (by decide)
  have e1 := flat_two (f := kdCells) (fun _ => rfl) (xs := kids) (j := j) (i := 1) hj (by decide)
  obtain ⟨b, off, rfl, c0⟩ := q3 _ (.int .i64 kids[j].off) (by rw [e0]; rfl)
  obtain ⟨b', off', he, c1⟩ := q3 _ (.int .u64 (kids[j].ct : Nat)) (by rw [e1]; rfl)
  simp only [Option.some.injEq, Addr.mk.injEq, and_true] at he
  obtain ⟨rfl, rfl⟩ := he
  refine ⟨b, off, [.int .i64 kids[j].off, .int .u64 (kids[j].ct : Nat)], rfl, fun i hi => ?_, rfl, h3 _ (List.getElem_mem hj)⟩
  match i, hi with
  | 0, _ => simpa [KRef] using c0
  | 1, _ => simpa [KRef, Nat.add_assoc] using c1
theorem ItT.block {its : List NIt} (h : ItT own w v its) {k : Nat} (hk : v.ownBlock = some k) : ∃ cur, w.heap[k]? = some (.cells cur 34 (0, 0)) := h.choose_spec.2.1.block hk
theorem KyT.block {ks : List (List Nat)} (h : KyT own w v ks) {k : Nat} (hk : v.ownBlock = some k) : ∃ cur, w.heap[k]? = some (.cells cur 31 (0, 0)) := h.choose_spec.2.1.block hk
theorem KdT.block {kids : List NKd} (h : KdT w v kids) {k : Nat} (hk : v.ownBlock = some k) : ∃ cur, w.heap[k]? = some (.cells cur 39 (0, 0)) := h.1.block hk
theorem itTT : RowT Try.prog 30 2 := ⟨by kernel_rfl, fun w => by kernel_rfl⟩
theorem kyTT : RowT Try.prog 78 1 := ⟨by kernel_rfl, fun w => by kernel_rfl⟩
theorem kdTT : RowT Try.prog 79 2 := ⟨by kernel_rfl, fun w => by kernel_rfl⟩
theorem ItT.cut {p : Option Addr} {c : Nat} {its : List NIt} (h : ItT own w (.slice p its.length c) its) (m : Nat) (hm : m ≤ its.length) :
    (∀ w0 : World, (Instr.slice 30 (.slice p its.length c) none (some (.int .i64 (m : Nat))) none).run Try.prog w0 = .ok (.slice p m c) w0) ∧ ItT own w (.slice p m c) (its.take m) ∧
      ∃ q d, (∀ w0 : World, (Instr.slice 30 (.slice p its.length c) (some (.int .i64 (m : Nat))) none none).run Try.prog w0 = .ok (.slice q (its.length - m) d) w0) ∧ ItT own w (.slice q (its.length - m) d) (its.drop m) ∧ (Value.slice q (its.length - m) d).ownBlock = (Value.slice p its.length c).ownBlock := by
  obtain ⟨cs, h1, h2, h3⟩ := h
  obtain ⟨r1, r2, q, d, r3, r4, r5⟩ := Tl.cut itTT h2 m hm
  rw [flat_takeN (f := itCells) (fun _ => rfl)] at r2
  rw [flat_dropN (f := itCells) (fun _ => rfl)] at r4
  have hl : (its.take m).length = m := by rw [List.length_take]; omega
  have hl2 : (its.drop m).length = its.length - m := List.length_drop ..
  refine ⟨r1, ⟨cs.take m, by simp [h1], by rw [hl]; exact r2, fun j hj hj' => ?_⟩, q, d, r3, ⟨cs.drop m, by simp [h1], by rw [hl2]; exact r4, fun j hj hj' => ?_⟩, r5⟩
  · rw [List.getElem_take, List.getElem_take]
    exact h3 j _ _
  · rw [List.getElem_drop, List.getElem_drop]
    exact h3 _ _ _
theorem KyT.cut {p : Option Addr} {c : Nat} {ks : List (List Nat)} (h : KyT own w (.slice p ks.length c) ks) (m : Nat) (hm : m ≤ ks.length) :
    (∀ w0 : World, (Instr.slice 78 (.slice p ks.length c) none (some (.int .i64 (m : Nat))) none).run Try.prog w0 = .ok (.slice p m c) w0) ∧ KyT own w (.slice p m c) (ks.take m) ∧
      ∃ q d, (∀ w0 : World, (Instr.slice 78 (.slice p ks.length c) (some (.int .i64 (m : Nat))) none none).run Try.prog w0 = .ok (.slice q (ks.length - m) d) w0) ∧ KyT own w (.slice q (ks.length - m) d) (ks.drop m) ∧ (Value.slice q (ks.length - m) d).ownBlock = (Value.slice p ks.length c).ownBlock := by
  obtain ⟨cs, h1, h2, h3⟩ := h
  obtain ⟨r1, r2, q, d, r3, r4, r5⟩ := Tl.cut kyTT h2 m hm
  rw [Nat.mul_one] at r2 r4
  have hl : (ks.take m).length = m := by rw [List.length_take]; omega
  have hl2 : (ks.drop m).length = ks.length - m := List.length_drop ..
  refine ⟨r1, ⟨cs.take m, by simp [h1], by rw [hl]; exact r2, fun j hj hj' => ?_⟩, q, d, r3, ⟨cs.drop m, by simp [h1], by rw [hl2]; exact r4, fun j hj hj' => ?_⟩, r5⟩
  · rw [List.getElem_take, List.getElem_take]
    exact h3 j _ _
  · rw [List.getElem_drop, List.getElem_drop]
    exact h3 _ _ _
theorem KdT.cut {p : Option Addr} {c : Nat} {ds : List NKd} (h : KdT w (.slice p ds.length c) ds) (m : Nat) (hm : m ≤ ds.length) :
    (∀ w0 : World, (Instr.slice 79 (.slice p ds.length c) none (some (.int .i64 (m : Nat))) none).run Try.prog w0 = .ok (.slice p m c) w0) ∧ KdT w (.slice p m c) (ds.take m) ∧
      ∃ q d, (∀ w0 : World, (Instr.slice 79 (.slice p ds.length c) (some (.int .i64 (m : Nat))) none none).run Try.prog w0 = .ok (.slice q (ds.length - m) d) w0) ∧ KdT w (.slice q (ds.length - m) d) (ds.drop m) ∧ (Value.slice q (ds.length - m) d).ownBlock = (Value.slice p ds.length c).ownBlock := by
  obtain ⟨h2, h3⟩ := h
  obtain ⟨r1, r2, q, d, r3, r4, r5⟩ := Tl.cut kdTT h2 m hm
  rw [flat_takeN (f := kdCells) (fun _ => rfl)] at r2
  rw [flat_dropN (f := kdCells) (fun _ => rfl)] at r4
  have hl : (ds.take m).length = m := by rw [List.length_take]; omega
  have hl2 : (ds.drop m).length = ds.length - m := List.length_drop ..
  exact ⟨r1, ⟨by rw [hl]; exact r2, fun x hx => h3 x (List.mem_of_mem_take hx)⟩, q, d, r3, ⟨by rw [hl2]; exact r4, fun x hx => h3 x (List.mem_of_mem_drop hx)⟩, r5⟩
theorem ty_bk : 5 ≠ 34 ∧ 5 ≠ 31 ∧ 5 ≠ 39 ∧ 5 ≠ 82 ∧ 5 ≠ 56 ∧ 5 ≠ 76 := by decide
theorem ItT.app {b c : Nat} {its : List NIt} {it : NIt} {x y : Value} (h : ItT own w v its) (hn : its.length ≤ 1000000) (hx : TxtO own w x it.k) (hy : TxtO own w y it.v) (hx1 : x.oneCell' = true ∧ y.oneCell' = true) (h0 : w.cell? ⟨b, 0, none⟩ = some x) (h1' : w.cell? ⟨b, 1, none⟩ = some y) :
    ∃ v' w', (Builtin.append_ #[30, 30] 30 #[v, .slice (some ⟨b, 0, none⟩) 1 c]).run Try.prog w = .ok v' w' ∧ ItT own w' v' (its ++ [it]) ∧ Grows w w' v v' := by
  obtain ⟨cs, h1, h2, h3⟩ := h
  obtain ⟨i, hi, hz, hs, hby⟩ := info_item
  obtain ⟨v', w', hr, ho, hg⟩ := Tl.app (P := Try.prog) (w := w) 30 (t := 30) (e := 34) (by kernel_rfl) hi hz hs hby rfl (by decide) h2 (b := b) (c := c) (news := [x, y]) rfl (fun j u hu => by
    rw [Nat.zero_add]
    match j, hu with
    | 0, hu => simp only [List.getElem?_cons_zero, Option.some.injEq] at hu; rw [h0, hu]
    | 1, hu => simp only [List.getElem?_cons_succ, List.getElem?_cons_zero, Option.some.injEq] at hu; rw [h1', hu]
    | j + 2, hu => simp at hu) (by intro u hu; simp only [List.mem_cons, List.not_mem_nil, or_false] at hu; rcases hu with rfl | rfl; exact hx1.1; exact hx1.2) (by unfold maxLen; omega) (by omega)
  have ht : Turns 0 (blk v) own own w w' := Turns.grows hg (fun _ hk => hk) h2 ty_bk.1
  refine ⟨v', w', hr, ⟨cs ++ [(x, y)], by simp [h1], by simpa [itCells] using ho, fun j hj hj' => ?_⟩, hg⟩
  by_cases hlt : j < its.length
  · rw [List.getElem_append_left hlt, List.getElem_append_left (by omega)]
    exact ⟨(h3 j hlt (by omega)).1.turns ht, (h3 j hlt (by omega)).2.turns ht⟩
  · obtain rfl : j = its.length := by simp at hj; omega
    rw [List.getElem_append_right (Nat.le_refl _), List.getElem_append_right (by omega)]
    simp only [h1, Nat.sub_self, List.getElem_singleton]
    exact ⟨hx.turns ht, hy.turns ht⟩
theorem KyT.app {b c : Nat} {ks : List (List Nat)} {k : List Nat} {x : Value} (h : KyT own w v ks) (hn : ks.length ≤ 1000000) (hx : TxtO own w x k) (hx1 : x.oneCell' = true) (h0 : w.cell? ⟨b, 0, none⟩ = some x) :
    ∃ v' w', (Builtin.append_ #[78, 78] 78 #[v, .slice (some ⟨b, 0, none⟩) 1 c]).run Try.prog w = .ok v' w' ∧ KyT own w' v' (ks ++ [k]) ∧ Grows w w' v v' := by
  obtain ⟨cs, h1, h2, h3⟩ := h
  obtain ⟨i, hi, hz, hs, hby⟩ := info_row
  obtain ⟨v', w', hr, ho, hg⟩ := Tl.app (P := Try.prog) (w := w) 78 (t := 78) (e := 31) (by kernel_rfl) hi hz hs hby rfl (by decide) h2 (b := b) (c := c) (news := [x]) rfl (fun j u hu => by
    rw [Nat.zero_add]
    match j, hu with
    | 0, hu => simp only [List.getElem?_cons_zero, Option.some.injEq] at hu; rw [h0, hu]
    | j + 1, hu => simp at hu) (by intro u hu; simp only [List.mem_cons, List.not_mem_nil, or_false] at hu; rw [hu]; exact hx1) (by unfold maxLen; omega) (by omega)
  have ht : Turns 0 (blk v) own own w w' := Turns.grows hg (fun _ hk => hk) h2 ty_bk.2.1
  refine ⟨v', w', hr, ⟨cs ++ [x], by simp [h1], by simpa using ho, fun j hj hj' => ?_⟩, hg⟩
  by_cases hlt : j < ks.length
  · rw [List.getElem_append_left hlt, List.getElem_append_left (by omega)]
    exact (h3 j hlt (by omega)).turns ht
  · obtain rfl : j = ks.length := by simp at hj; omega
    rw [List.getElem_append_right (Nat.le_refl _), List.getElem_append_right (by omega)]
    simp only [h1, Nat.sub_self, List.getElem_singleton]
    exact hx.turns ht
theorem KdT.app {b c : Nat} {ds : List NKd} {d : NKd} (h : KdT w v ds) (hn : ds.length ≤ 1000000) (hd : d.off ≤ 9223372036854775807 ∧ d.ct < 18446744073709551616) (h0 : w.cell? ⟨b, 0, none⟩ = some (.int .i64 d.off)) (h1' : w.cell? ⟨b, 1, none⟩ = some (.int .u64 (d.ct : Nat))) :
    ∃ v' w', (Builtin.append_ #[79, 79] 79 #[v, .slice (some ⟨b, 0, none⟩) 1 c]).run Try.prog w = .ok v' w' ∧ KdT w' v' (ds ++ [d]) ∧ Grows w w' v v' := by
  obtain ⟨h2, h3⟩ := h
  obtain ⟨i, hi, hz, hs, hby⟩ := info_ref
  obtain ⟨v', w', hr, ho, hg⟩ := Tl.app (P := Try.prog) (w := w) 79 (t := 79) (e := 39) (by kernel_rfl) hi hz hs hby rfl (by decide) h2 (b := b) (c := c) (news := kdCells d) rfl (fun j u hu => by
    rw [Nat.zero_add]
    match j, hu with
    | 0, hu => simp only [kdCells, List.getElem?_cons_zero, Option.some.injEq] at hu; rw [h0, hu]
    | 1, hu => simp only [kdCells, List.getElem?_cons_succ, List.getElem?_cons_zero, Option.some.injEq] at hu; rw [h1', hu]
    | j + 2, hu => simp [kdCells] at hu) (by intro u hu; simp only [kdCells, List.mem_cons, List.not_mem_nil, or_false] at hu; rcases hu with rfl | rfl <;> rfl) (by unfold maxLen; omega) (by omega)
  refine ⟨v', w', hr, ⟨by simpa using ho, fun x hx => ?_⟩, hg⟩
  rcases List.mem_append.1 hx with hx | hx
  · exact h3 x hx
  · obtain rfl : x = d := by simpa using hx
    exact hd
end
def rowC (p g : Nat) (it : Bool) (vi vk vd up : Value) : Array Value :=
  #[vi, vk, vd, .func (.func (if it = true then 31 else 85)) #[.pointer (some ⟨p, 0, none⟩)] #[], .func (.func 18) #[.pointer (some ⟨g, 0, none⟩)] #[], up]
inductive Chain (own : Own) (W : World) (g : Nat) (w : World) : Value → List (List KE) → List Nat → Prop where
  | nil : Chain own W g w (.pointer none) [] []
  | cons {p : Nat} {kv dv up : Value} {es : List KE} {rest : List (List KE)} {F : List Nat} (hp : w.heap[p]? = some (.cells (rowC p g false (.slice none 0 0) kv dv up) 82 (0, 0))) (hk : KyT own w kv (es.map (·.k))) (hd : KdT w dv (es.map (·.d)))
      (hr : Chain own W g w up rest F) (hn : (p :: (blk kv ++ (blk dv ++ F))).Nodup) (hf : ∀ k ∈ p :: (blk kv ++ (blk dv ++ F)), own k = none ∧ k ≠ g ∧ W.heap.size ≤ k ∧ k < w.heap.size) :
      Chain own W g w (.pointer (some ⟨p, 0, none⟩)) (es :: rest) (p :: (blk kv ++ (blk dv ++ F)))
theorem Chain.free {own : Own} {W : World} {g : Nat} {w : World} {v : Value} {lv : List (List KE)} {F : List Nat} (h : Chain own W g w v lv F) : ∀ k ∈ F, own k = none ∧ k ≠ g ∧ W.heap.size ≤ k ∧ k < w.heap.size := by
  cases h with
  | nil => intro k hk; cases hk
  | cons hp hk hd hr hn hf => exact hf
theorem Chain.nodup {own : Own} {W : World} {g : Nat} {w : World} {v : Value} {lv : List (List KE)} {F : List Nat} (h : Chain own W g w v lv F) : F.Nodup := by
  cases h with
  | nil => exact .nil
  | cons hp hk hd hr hn hf => exact hn
theorem Chain.stay {own own' : Own} {W : World} {g : Nat} {w w' : World} {v : Value} {lv : List (List KE)} {F F0 : List Nat} (h : Chain own W g w v lv F) (ht : Turns g F0 own own' w w') (hk : ∀ k ∈ F, w'.heap[k]? = w.heap[k]?) : Chain own' W g w' v lv F := by
  induction h with
  | nil => exact .nil
  | cons hp hky hd hr hn hf ih =>
    refine .cons ((hk _ (by simp)).trans hp) (hky.turns ht (fun k he => hk k ?_)) (hd.stay (fun k he => hk k ?_)) (ih (fun k hm => hk k ?_)) hn (fun k hm => ?_)
    · exact List.mem_cons_of_mem _ (List.mem_append_left _ (mem_blk.2 he))
    · exact List.mem_cons_of_mem _ (List.mem_append_right _ (List.mem_append_left _ (mem_blk.2 he)))
    · exact List.mem_cons_of_mem _ (List.mem_append_right _ (List.mem_append_right _ hm))
    · obtain ⟨h1, h2, h3, h4⟩ := hf k hm
      exact ⟨(ht.same k h4).trans h1, h2, h3, Nat.lt_of_lt_of_le h4 ht.size⟩
theorem Chain.apart {own own' : Own} {W : World} {g : Nat} {w w' : World} {v : Value} {lv : List (List KE)} {F F0 : List Nat} (h : Chain own W g w v lv F) (ht : Turns g F0 own own' w w') (hd : ∀ k ∈ F, k ∉ F0) : Chain own' W g w' v lv F :=
  h.stay ht (fun k hk => by obtain ⟨h1, h2, h3, h4⟩ := h.free k hk; exact ht.block k h4 h2 (hd k hk) h1)
def BkF (R : Int) (C : List Nat) (lf : Nat) (W : World) (g a : Nat) (own : Own) (w : World) : Prop :=
  ∃ o os, Dsk W a (oneF tT R o lf [] [.create tT 1] (K3 zero128 zero128 C) [] os) own w ∧ Fil W g a tT (256 + C.length) own w ∧ 9 * o ≤ C.length + 18 ∧ 9 * os.length ≤ C.length + 9
section
variable {R : Int} {C : List Nat} {lf : Nat} {W : World} {g a : Nat} {own : Own} {w w' : World}
theorem BkF.stay (h : BkF R C lf W g a own w) (hb : Below w.heap.size w w') : BkF R C lf W g a own w' := by
  obtain ⟨o, os, h1, h2, h3, h4⟩ := h
  exact ⟨o, os, h1.stay hb, h2.stay hb, h3, h4⟩
theorem BkF.grown (h : BkF R C lf W g a own w) {r : Option Nat} (hg : w.grownBy w' r) (hr : ∀ k, r = some k → own k = none ∧ k ≠ g ∧ W.heap.size ≤ k) : BkF R C lf W g a own w' := by
  obtain ⟨o, os, h1, h2, h3, h4⟩ := h
  exact ⟨o, os, h1.grown hg (fun k hk => ⟨(hr k hk).1, (hr k hk).2.2⟩), h2.same (hg.block g h2.lt (fun e => (hr g e.symm).2.1 rfl)), h3, h4⟩
theorem BkF.sole {F : List Nat} (h : BkF R C lf W g a own w) (hg : Sole F w w') (hr : ∀ k ∈ F, own k = none ∧ k ≠ g ∧ W.heap.size ≤ k) : BkF R C lf W g a own w' := by
  obtain ⟨o, os, h1, h2, h3, h4⟩ := h
  exact ⟨o, os, dsk_sole h1 hg (fun k hk => ⟨(hr k hk).1, (hr k hk).2.2⟩), h2.same (hg.block g h2.lt (fun e => (hr g e).2.1 rfl)), h3, h4⟩
theorem grown_of_only {A : Nat} (h : Only A w w') : w.grownBy w' (some A) := ⟨h.os, h.tape, h.output, h.size, fun k hk hne => h.block k hk (fun e => hne (by rw [e]))⟩
theorem BkF.only (h : BkF R C lf W g a own w) {A : Nat} (ho : Only A w w') (hA : own A = none ∧ A ≠ g ∧ W.heap.size ≤ A) : BkF R C lf W g a own w' :=
  h.grown (grown_of_only ho) (fun k hk => by cases hk; exact hA)
theorem BkF.new_none (h : BkF R C lf W g a own w) {k : Nat} (hk : w.heap.size ≤ k) : own k = none := by
  obtain ⟨o, os, h1, _⟩ := h
  exact h1.new_none hk
theorem BkF.glt (h : BkF R C lf W g a own w) : g < w.heap.size ∧ W.heap.size ≤ g ∧ W.heap.size ≤ w.heap.size := by
  obtain ⟨o, os, h1, h2, _⟩ := h
  exact ⟨h2.lt, h2.far, h1.below.size⟩
theorem BkF.gcell (h : BkF R C lf W g a own w) : ∃ c, w.heap[g]? = some (.cells c 76 (0, 0)) := by
  obtain ⟨o, os, h1, h2, _⟩ := h
  exact ⟨_, h2.cells⟩
def Appd (R : Int) (C : List Nat) (lf : Nat) (W : World) (g a : Nat) (own : Own) (k : Nat) (b : List Nat) (w : World) (e : Ending) (w' : World) : Prop :=
  (e = .returned (.tuple #[.int .i64 (256 + C.length : Nat), .int .i64 0]) ∧ ∃ own' lf', lf' ≤ lf ∧ Turns g [] own own' w w' ∧ BkF R (C ++ recOf k b) lf' W g a own' w') ∨
    (lf ≠ 0 ∧ e = .returned (.tuple #[.int .i64 0, .int .i64 5]) ∧ ∃ own', Turns g [] own own' w w')
theorem app_bk (h : BkF R C lf W g a own w) (hR : ((256 + C.length + 4105 : Nat) : Int) ≤ R ∧ R ≤ 1099511627776) (hC : C.length ≤ 1000000) (hlf : lf < 1000000) {k : Nat} (hk : k < 256) {bv : Value} {b : List Nat} (hb : Bytes w bv b) (hbl : b.length ≤ 4096) :
    Calls Try.prog 18 #[.pointer (some ⟨g, 0, none⟩), .int .u8 k, bv] w (Appd R C lf W g a own k b w) := by
  obtain ⟨o, os, h1, h2, h3, h4⟩ := h
  by_cases hl : lf = 1
  · subst hl
    refine (one_append_io (A := zero128) (B := zero128) h1 h2 (by show tT.size ≤ maxLen; decide +kernel) zero128_length zero128_length (by omega) (by omega) ⟨by omega, by show 1 < _; omega, by omega⟩ hk hb hbl).mono ?_
    rintro e w' ⟨rfl, own', hm, hd, hf⟩
    exact .inr ⟨by decide, rfl, own', Turns.moves hm h2.cells ty_bk.2.2.2.2.2⟩
  · refine (one_append (A := zero128) (B := zero128) h1 h2 tT_may (by show tT.size ≤ maxLen; decide +kernel) hl zero128_length zero128_length hR (by omega) ⟨by omega, hlf, by show 1 < _; omega, by omega⟩ hk hb hbl).mono ?_
    rintro e w' ⟨rfl, own', hm, hd, hf⟩
    refine .inl ⟨rfl, own', lf - 1, by omega, Turns.moves hm h2.cells ty_bk.2.2.2.2.2, o + 1, os ++ [.write (256 + C.length) (recOf k b)], hd, hf, ?_, ?_⟩
    · rw [List.length_append, recOf_length]; omega
    · rw [List.length_append, List.length_append, recOf_length, List.length_singleton]; omega
end
end Go.Proofs.Ytajfcnaifegonaa.Sl.Nd
/- Rows made trees, in a program: small functions. -/
namespace Go.Proofs.Ytajfcnaifegonaa.Sl.Nd
open Go Go.RowKit Go.By
set_option maxRecDepth 100000 in
theorem size_bk {w : World} {p : Nat} {pi pd : Option Addr} {ni ci nd cd : Nat} {vk x3 x4 x5 : Value} (hp : w.heap[p]? = some (.cells #[.slice pi ni ci, vk, .slice pd nd cd, x3, x4, x5] 82 (0, 0))) (hn : ni + nd ≤ 1000000) :
    Calls Try.prog 40 #[.pointer (some ⟨p, 0, none⟩)] w fun e w' => e = .returned (.int .i64 (ni + nd : Nat)) ∧ Below w.heap.size w w' := by
  have c0 : w.drew.cell? ⟨p, 0, none⟩ = some (.slice pi ni ci) := cells_of hp 0
  have c2 : w.drew.cell? ⟨p, 2, none⟩ = some (.slice pd nd cd) := cells_of hp 2
  have hb := (Below.refl w.heap.size w).drew
  have hw : IntKind.i64.wrap ((ni : Int) + nd) = (ni + nd : Nat) := by rw [IntKind.wrap_i64]; omega
  have HN := Lib.hid hn
  clear hp hn
  go_enter Try.func40, Try.ntmps40
  go_wp2_with fail
  go_region
  go_wp2
  go_ret
  exact ⟨by simp, hb⟩
set_option maxRecDepth 100000 in
theorem share_bk (w : World) (n : Nat) (hn : n ≤ 1000000) : Calls Try.prog 42 #[.int .i64 (n : Nat)] w fun e w' => e = .returned (.int .i64 (shareN n : Nat)) ∧ Below w.heap.size w w' := by
  have hb := Below.refl w.heap.size w
  have HS : Hid (shareN n = if n ≤ 8 then n else n - n / 2) := rfl
  by_cases h8 : (n : Int) ≤ 8
  · have hs : shareN n = n := by rw [HS.out, if_pos (by omega)]
    rw [hs]
    clear hs
    go_enter Try.func42, Try.ntmps42
    go_wp2
    go_ret
    exact ⟨rfl, hb⟩
  · have hs : shareN n = n - n / 2 := by rw [HS.out, if_neg (by omega)]
    rw [hs]
    have hw : IntKind.i64.wrap (((n : Nat) : Int).tdiv 2) = (n / 2 : Nat) := by
      rw [IntKind.wrap_i64]
      have : ((n : Nat) : Int).tdiv 2 = ((n / 2 : Nat) : Int) := by rw [Int.ofNat_tdiv]; rfl
      rw [this]; omega
    have hw2 : IntKind.i64.wrap ((n : Int) - (n / 2 : Nat)) = (n - n / 2 : Nat) := by rw [IntKind.wrap_i64]; omega
    clear hs
    go_enter Try.func42, Try.ntmps42
    go_wp2
    go_ret
    refine ⟨?_, hb⟩
    simp
    omega
end Go.Proofs.Ytajfcnaifegonaa.Sl.Nd
