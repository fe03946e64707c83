/- What is lent, and whether it is kept. -/
import Derived.Test.YtajfcnaifegonaaChecked
import Derived.Test.YtajfcnaifegonaaMSlA
import Derived.Test.YtajfcnaifegonaaMMapB
namespace Go.Proofs.Ytajfcnaifegonaa
open Go.RowKit Go.By
theorem byT : ByT Try.prog 31 5 := ⟨by kernel_rfl, by kernel_rfl, by kernel_rfl⟩
def tail (k : Nat) : List Nat := (List.range k).map (224 + ·)
def Lent (B : Nat) (w : World) (v : Value) (l : List Nat) : Prop :=
  ∃ g cap, v = .slice (some ⟨g, 0, none⟩) l.length cap ∧ w.ownsRow B 5 1 (.slice (some ⟨g, 0, none⟩) (l.length + 6) cap) (l.length + 6) (cellsOf (l ++ tail 6))
end Go.Proofs.Ytajfcnaifegonaa
/- The disk: what it is (as lists), how it lies in memory, and that it stays where its blocks stay. -/
namespace Go.Proofs.Ytajfcnaifegonaa
open Go Go.RowKit Go.By
inductive ByteOp where
  | write (off : Nat) (b : List Nat)
  | cut (n : Nat)
inductive NameOp where
  | create (s : ByteArray) (n : Nat)
  | rename (s t : ByteArray)
  | remove (s : ByteArray)
structure FileA where
  seen : List Nat
  kept : List Nat
  laid : List ByteOp
structure DiskA where
  room : Int
  used : Int
  ops : Nat
  left : Nat
  made : Nat
  seen : List (ByteArray × Nat)
  kept : List (ByteArray × Nat)
  laid : List NameOp
  fm : List (Nat × Nat)
  cont : Nat → FileA
inductive Role where
  | disk | seen | kept | laid | files | ink
  | file (n : Nat) | fseen (n : Nat) | fkept (n : Nat) | flaid (n : Nat)
deriving DecidableEq
abbrev Own := Nat → Option Role
structure Steps (own own' : Own) (w w' : World) : Prop where
  os : w'.os = w.os
  tape : w'.tape = w.tape
  output : w'.output = w.output
  size : w.heap.size ≤ w'.heap.size
  block : ∀ k, k < w.heap.size → (own k = none ∨ own k = some .ink) → w'.heap[k]? = w.heap[k]?
  same : ∀ k, k < w.heap.size → own' k = own k
theorem Steps.refl (own : Own) (w : World) : Steps own own w w := ⟨rfl, rfl, rfl, Nat.le_refl _, fun _ _ _ => rfl, fun _ _ => rfl⟩
theorem Steps.trans {o1 o2 o3 : Own} {w1 w2 w3 : World} (h : Steps o1 o2 w1 w2) (k : Steps o2 o3 w2 w3) : Steps o1 o3 w1 w3 :=
  ⟨k.os.trans h.os, k.tape.trans h.tape, k.output.trans h.output, Nat.le_trans h.size k.size,
    fun b hb hn => (k.block b (Nat.lt_of_lt_of_le hb h.size) (by rw [h.same b hb]; exact hn)).trans (h.block b hb hn),
    fun b hb => (k.same b (Nat.lt_of_lt_of_le hb h.size)).trans (h.same b hb)⟩
theorem Steps.below {own own' : Own} {w w' : World} {B : Nat} (h : Steps own own' w w') (hB : B ≤ w.heap.size) (ho : ∀ k r, own k = some r → B ≤ k) : Below B w w' :=
  ⟨h.os, h.tape, h.output, h.size, fun k hk => h.block k (by omega) (by
    cases hr : own k with
    | none => exact .inl rfl
    | some r => have := ho k r hr; omega)⟩
theorem Steps.of_below {own : Own} {w w' : World} (h : Below w.heap.size w w') : Steps own own w w' :=
  ⟨h.os, h.tape, h.output, h.size, fun k hk _ => h.block k hk, fun _ _ => rfl⟩
theorem Steps.of_grown {own : Own} {w w' : World} {g : Nat} (h : w.grownBy w' (some g)) {r : Role} (hg : own g = some r) (hr : r ≠ .ink) : Steps own own w w' :=
  ⟨h.os, h.tape, h.output, h.size, fun k hk hn => h.block k hk (by
    intro he; cases he
    rcases hn with hn | hn
    · rw [hg] at hn; cases hn
    · rw [hg] at hn; cases hn; exact hr rfl), fun _ _ => rfl⟩
structure Stay (own own' : Own) (R : Role → Prop) (w w' : World) : Prop where
  role : ∀ k r, own k = some r → own' k = some r
  block : ∀ k r, own k = some r → R r → w'.heap[k]? = w.heap[k]?
theorem Stay.weaken {own own' : Own} {R R' : Role → Prop} {w w' : World} (h : Stay own own' R w w') (hR : ∀ r, R' r → R r) : Stay own own' R' w w' :=
  ⟨h.role, fun k r hk hr => h.block k r hk (hR r hr)⟩
def strV (s : ByteArray) : Value := .string s
def natV (n : Nat) : Value := .int .i64 n
def ptrV (b : Nat) : Value := .pointer (some ⟨b, 0, none⟩)
def MapV {α β : Type} [DecidableEq α] (w : World) (own : Own) (r : Role) (v : Value) (mk : α → Value) (mv : β → Value) (m : List (α × β)) : Prop :=
  (v = .map none ∧ m = []) ∨ ∃ b, v = .map (some b) ∧ own b = some r ∧ Mp.Is w b mk mv m
theorem MapV.stay {α β : Type} [DecidableEq α] {w w' : World} {own own' : Own} {r : Role} {v : Value} {mk : α → Value} {mv : β → Value} {m : List (α × β)} (h : MapV w own r v mk mv m) {R : Role → Prop} (hs : Stay own own' R w w') (hr : R r) : MapV w' own' r v mk mv m := by
  rcases h with h | ⟨b, rfl, hb, hm⟩
  · exact .inl h
  · exact .inr ⟨b, rfl, hs.role b r hb, hm.of_heap (hs.block b r hb hr)⟩
structure RowV (w : World) (own : Own) (r : Role) (v : Value) (l : List Nat) : Prop where
  owns : w.ownsRow 0 5 1 v l.length (cellsOf l)
  role : ∀ k, v.ownBlock = some k → own k = some r
  small : ∀ c ∈ l, c < 256
theorem ownsRow_of_heap {w w' : World} {base : Nat} {e : TypeId} {size : Nat} {v : Value} {n : Nat} {xs : List Value} (h : w.ownsRow base e size v n xs) (hb : ∀ k, v.ownBlock = some k → w'.heap[k]? = w.heap[k]?) : w'.ownsRow base e size v n xs := by
  refine ⟨h.1, ?_⟩
  rcases h.2 with hn | ⟨g, cap, cur, rfl, h1, h2, rest⟩
  · exact .inl hn
  · exact .inr ⟨g, cap, cur, rfl, h1, (hb g rfl).trans h2, rest⟩
theorem RowV.stay {w w' : World} {own own' : Own} {r : Role} {v : Value} {l : List Nat} (h : RowV w own r v l) {R : Role → Prop} (hs : Stay own own' R w w') (hr : R r) : RowV w' own' r v l :=
  ⟨ownsRow_of_heap h.owns fun k hk => hs.block k r (h.role k hk) hr, fun k hk => hs.role k r (h.role k hk), h.small⟩
theorem RowV.bytes {w : World} {own : Own} {r : Role} {v : Value} {l : List Nat} (h : RowV w own r v l) (hm : l.length ≤ maxLen) : Bytes w v l := Bytes.of_owns h.owns h.small hm
theorem RowV.nil (w : World) (own : Own) (r : Role) : RowV w own r (.slice none 0 0) [] := ⟨World.ownsRow_nil _ _ _ _, fun k hk => (by cases hk), fun c hc => (by cases hc)⟩
def OpV (w : World) (own : Own) (c : Value) : ByteOp → Prop
  | .write off b => ∃ bv, c = .func (.func 76) #[.agg #[.int .i64 off, bv]] #[] ∧ Bytes w bv b ∧ (∀ k, bv.ownBlock = some k → own k = some .ink) ∧ 0 < b.length ∧ off ≤ 16777216 ∧ b.length ≤ 1048576
  | .cut n => c = .func (.func 55) #[.agg #[.int .i64 n]] #[] ∧ n ≤ 16777216
def OpsV (w : World) (own : Own) : List Value → List ByteOp → Prop
  | [], l => l = []
  | c :: cs, l => ∃ o os, l = o :: os ∧ OpV w own c o ∧ OpsV w own cs os
def nameV : NameOp → Value
  | .create s n => .func (.func 52) #[.agg #[.string s, .int .i64 n]] #[]
  | .rename s t => .agg #[.string s, .string t]
  | .remove s => .func (.func 57) #[.agg #[.string s]] #[]
theorem Bytes.stay {w w' : World} {own own' : Own} {R : Role → Prop} {v : Value} {l : List Nat} (h : Bytes w v l) (ho : ∀ k, v.ownBlock = some k → own k = some .ink) (hs : Stay own own' R w w') (hr : R .ink) : Bytes w' v l where
  out := by
    rcases h.out with h1 | h1 | ⟨b, off, cap, rfl, h2, hc⟩
    · exact .inl h1
    · exact .inr (.inl h1)
    · exact .inr (.inr ⟨b, off, cap, rfl, h2, fun i hi => (World.cell?_of_block (hs.block b .ink (ho b rfl) hr)).trans (hc i hi)⟩)
  small := h.small
  short := h.short
theorem OpV.stay {w w' : World} {own own' : Own} {R : Role → Prop} {c : Value} {o : ByteOp} (h : OpV w own c o) (hs : Stay own own' R w w') (hr : R .ink) : OpV w' own' c o := by
  cases o with
  | write off b => obtain ⟨bv, h1, h2, h3, h4⟩ := h; exact ⟨bv, h1, Bytes.stay h2 h3 hs hr, fun k hk => hs.role k _ (h3 k hk), h4⟩
  | cut n => exact h
theorem OpsV.stay {w w' : World} {own own' : Own} {R : Role → Prop} (hs : Stay own own' R w w') (hr : R .ink) : ∀ {cs : List Value} {l : List ByteOp}, OpsV w own cs l → OpsV w' own' cs l
  | [], _, h => h
  | _ :: _, _, h => let ⟨o, os, h1, h2, h3⟩ := h; ⟨o, os, h1, h2.stay hs hr, h3.stay hs hr⟩
theorem OpsV.length {w : World} {own : Own} : ∀ {cs : List Value} {l : List ByteOp}, OpsV w own cs l → cs.length = l.length
  | [], _, h => by simp only [OpsV] at h; subst h; rfl
  | _ :: _, _, h => by obtain ⟨o, os, rfl, _, h3⟩ := h; simp [h3.length]
theorem OpsV.snoc {w : World} {own : Own} {c : Value} {o : ByteOp} (ho : OpV w own c o) : ∀ {cs : List Value} {l : List ByteOp}, OpsV w own cs l → OpsV w own (cs ++ [c]) (l ++ [o])
  | [], _, h => by simp only [OpsV] at h; subst h; exact ⟨o, [], rfl, ho, rfl⟩
  | _ :: _, _, h => by obtain ⟨o', os, rfl, h2, h3⟩ := h; exact ⟨o', _, rfl, h2, h3.snoc ho⟩
theorem OpsV.get {w : World} {own : Own} : ∀ {cs : List Value} {l : List ByteOp}, OpsV w own cs l → ∀ (i : Nat) (o : ByteOp), l[i]? = some o → ∃ c, cs[i]? = some c ∧ OpV w own c o
  | [], _, h, i, o, hi => by simp only [OpsV] at h; subst h; cases hi
  | c :: cs, _, h, 0, o, hi => by obtain ⟨o', os, rfl, h2, h3⟩ := h; cases hi; exact ⟨c, rfl, h2⟩
  | c :: cs, _, h, i + 1, o, hi => by obtain ⟨o', os, rfl, h2, h3⟩ := h; simpa using h3.get i o (by simpa using hi)
structure FileIs (w : World) (own : Own) (n fb : Nat) (F : FileA) : Prop where
  out : ∃ sv kv lv cs, w.heap[fb]? = some (.cells #[sv, kv, lv] 106 (0, 0)) ∧ RowV w own (.fseen n) sv F.seen ∧ RowV w own (.fkept n) kv F.kept ∧
    w.ownsRow 0 141 1 lv F.laid.length cs ∧ (∀ k, lv.ownBlock = some k → own k = some (.flaid n)) ∧ OpsV w own cs F.laid
  role : own fb = some (.file n)
  bareF : ∀ lv, w.cell? ⟨fb, 2, none⟩ = some lv → F.laid = [] → lv = .slice none 0 0
theorem third_cell {w : World} {fb : Nat} {c : Array Value} {t : TypeId} {fr : Nat × Nat} (h : w.heap[fb]? = some (.cells c t fr)) {x : Value} (hx : c[2]? = some x) {lv : Value} (hl : w.cell? ⟨fb, 2, none⟩ = some lv) : lv = x := by
  rw [cell_of_row w fb 2 c t fr h, hx] at hl
  exact (Option.some.inj hl).symm
theorem FileIs.stay {w w' : World} {own own' : Own} {R : Role → Prop} {n fb : Nat} {F : FileA} (h : FileIs w own n fb F) (hs : Stay own own' R w w') (h1 : R (.file n)) (h2 : R (.fseen n)) (h3 : R (.fkept n)) (h4 : R (.flaid n)) (h5 : R .ink) : FileIs w' own' n fb F := by
  obtain ⟨⟨sv, kv, lv, cs, g1, g2, g3, g4, g5, g6⟩, hr, hbf⟩ := h
  exact ⟨⟨sv, kv, lv, cs, (hs.block fb _ hr h1).trans g1, g2.stay hs h2, g3.stay hs h3, ownsRow_of_heap g4 fun k hk => hs.block k _ (g5 k hk) h4, fun k hk => hs.role k _ (g5 k hk), g6.stay hs h5⟩, hs.role fb _ hr,
    fun lv hl => hbf lv ((World.cell?_of_block (a := ⟨fb, 2, none⟩) (hs.block fb _ hr h1)).symm.trans hl)⟩
structure Parts (w : World) (own : Own) (ms mk mf lv : Value) (D : DiskA) : Prop where
  seen : MapV w own .seen ms strV natV D.seen
  kept : MapV w own .kept mk strV natV D.kept
  laid : w.ownsRow 0 140 1 lv D.laid.length (D.laid.map nameV)
  laidR : ∀ k, lv.ownBlock = some k → own k = some .laid
  files : MapV w own .files mf natV ptrV D.fm
  each : ∀ n fb, Mp.get D.fm n = some fb → FileIs w own n fb (D.cont n)
  bare : mk = .map none → D.seen = [] ∧ D.fm = [] ∧ D.laid = []
  full : mk ≠ .map none → ms ≠ .map none ∧ mf ≠ .map none
  bareL : D.laid = [] → lv = .slice none 0 0
theorem Parts.stay {w w' : World} {own own' : Own} {ms mk mf lv : Value} {D : DiskA} (h : Parts w own ms mk mf lv D) (hs : Stay own own' (· ≠ .disk) w w') : Parts w' own' ms mk mf lv D where
  seen := h.seen.stay hs (by decide)
  kept := h.kept.stay hs (by decide)
  laid := ownsRow_of_heap h.laid fun k hk => hs.block k _ (h.laidR k hk) (by decide)
  laidR := fun k hk => hs.role k _ (h.laidR k hk)
  files := h.files.stay hs (by decide)
  each := fun n fb hn => (h.each n fb hn).stay hs (by simp) (by simp) (by simp) (by simp) (by simp)
  bare := h.bare
  full := h.full
  bareL := h.bareL
structure DiskA.Ok (D : DiskA) : Prop where
  seenIn : ∀ s n, Mp.get D.seen s = some n → (Mp.get D.fm n).isSome = true
  keptIn : ∀ s n, Mp.get D.kept s = some n → (Mp.get D.fm n).isSome = true
  laidIn : ∀ s n, NameOp.create s n ∈ D.laid → (Mp.get D.fm n).isSome = true
  made : ∀ n, (Mp.get D.fm n).isSome = true → n ≤ D.made
structure DiskIs (w : World) (own : Own) (a : Nat) (D : DiskA) : Prop where
  out : ∃ ms mk mf lv, w.heap[a]? = some (.cells #[.int .i64 D.room, .int .i64 D.used, .int .i64 D.ops, .int .i64 D.left, ms, mk, lv, .int .i64 D.made, mf] 72 (0, 0)) ∧ Parts w own ms mk mf lv D
  role : own a = some .disk
  only : ∀ k, own k = some .disk → k = a
  here : ∀ k r, own k = some r → k < w.heap.size
theorem DiskIs.beside {w w' : World} {own o1 o2 : Own} {a : Nat} {D : DiskA} (h : DiskIs w own a D) (hs : Steps o1 o2 w w') (hd : ∀ k r, own k = some r → o1 k = none ∨ o1 k = some .ink) : DiskIs w' own a D := by
  have hk : ∀ k r, own k = some r → w'.heap[k]? = w.heap[k]? := fun k r hr => hs.block k (h.here k r hr) (hd k r hr)
  obtain ⟨⟨ms, mk, mf, lv, h1, h2⟩, hr, ho, hh⟩ := h
  exact ⟨⟨ms, mk, mf, lv, (hk a _ hr).trans h1, h2.stay ⟨fun _ _ h => h, fun k r h _ => hk k r h⟩⟩, hr, ho, fun k r h => Nat.lt_of_lt_of_le (hh k r h) hs.size⟩
end Go.Proofs.Ytajfcnaifegonaa
