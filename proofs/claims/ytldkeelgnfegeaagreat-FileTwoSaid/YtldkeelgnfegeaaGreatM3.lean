/- Own texts, merged: Iter, IterB, DskA, DskB, DskC, DskD, DskE, DskF, DskG, DskH, DskI, DskJ, DskK. -/
import Derived.Test.YtldkeelgnfegeaaGreatM2
import Derived.Shelf.SlIter.Nil
import Derived.Shelf.SortM.Plain
import Derived.Shelf.SortM.SortNone
import Derived.Ground.GgzProg
import Derived.Ground.SlgmProg
import Derived.Test.YtldkeelgnfegeaaGreatProg
import Derived.Test.YtldkeelgnfegeaaGreatChecked
import Derived.Handy
import Derived.BigQuiet
import Derived.Deep.QuietTactic
import Derived.WalkLawsBesides
import Derived.Maps.AppendAt
import Derived.WalkSpells
import Derived.Deep.RegionHeld3
import Derived.RegionTactic

/-
  DERIVED: THE SHELF's CONTRACTS AT THIS DUMP, IN PLAIN WORDS (tools/lay-plain.mjs out of 'YtldkeelgnfegeaaGreatIterS.lean', which tools/lay-shelf.mjs wrote): THE SAME DECLARATIONS UNDER THE SAME NAMES: 'import', 'namespace', 'open', 'def', 'theorem' AND NOTHING ELSE: no command of the shelf's: FOR A HAND-IN. Each laying: the table of numbers ('.._ren') and one theorem, a field a fact of the dump's own or the kernel's comparison; each contract: ONE APPLICATION.
-/
namespace Go.Proofs
open Go.Shelf
def Tryz.keysS_ren : Go.Shelf.Ren := ⟨fun | 7 => 40 | 10 => 66 | n => n, fun | 23 => 51 | 26 => 9 | 3 => 3 | 28 => 87 | 0 => 0 | 27 => 86 | 33 => 92 | 4 => 4 | n => n, fun | n => n⟩
theorem Tryz.keysS : Go.Proofs.SlLaysZ.n7 Tryz.prog Tryz.keysS_ren := {
  mixed := by kernel_rfl
  f7 := ⟨Tryz.f40.name, by decide, Tryz.func40.trans (congrArg some (by kernel_rfl))⟩
  f10 := ⟨Tryz.f66.name, by decide, Tryz.func66.trans (congrArg some (by kernel_rfl))⟩
  t0 := Tryz.underlying0
  a0 := Tryz.isAgg0
  z0 := Tryz.sizeOf0
  v0 := Tryz.zeroValue0
  t4 := Tryz.underlying4
  a4 := Tryz.isAgg4
  z4 := Tryz.sizeOf4
  v4 := Tryz.zeroValue4
  t23 := Tryz.underlying51
  a23 := Tryz.isAgg51
  z23 := Tryz.sizeOf51
  v23 := Tryz.zeroValue51
  t26 := Tryz.underlying9
  a26 := Tryz.isAgg9
  z26 := Tryz.sizeOf9
  v26 := Tryz.zeroValue9
  t27 := Tryz.underlying86
  a27 := Tryz.isAgg86
  z27 := Tryz.sizeOf86
  v27 := Tryz.zeroValue86
  t28 := Tryz.underlying87
  a28 := Tryz.isAgg87
  z28 := Tryz.sizeOf87
  v28 := Tryz.zeroValue87
  t33 := Tryz.underlying92
  a33 := Tryz.isAgg92
  z33 := Tryz.sizeOf92
  v33 := Tryz.zeroValue92 }
def Tryz.sortedS_ren : Go.Shelf.Ren := ⟨fun | 6 => 39 | 8 => 64 | 9 => 65 | 11 => 82 | 13 => 84 | 12 => 83 | 23 => 104 | 24 => 105 | 14 => 95 | 15 => 96 | 16 => 97 | 17 => 98 | 18 => 99 | 19 => 100 | 20 => 101 | 21 => 102 | 22 => 103 | 25 => 108 | 26 => 109 | 27 => 110 | 28 => 111 | 29 => 112 | 30 => 113 | 31 => 114 | n => n, fun | 26 => 9 | 28 => 87 | 24 => 42 | 0 => 0 | 3 => 3 | 37 => 141 | 48 => 127 | 50 => 40 | 4 => 4 | 40 => 152 | 39 => 151 | 45 => 93 | 5 => 5 | 9 => 9 | 51 => 162 | 55 => 165 | 57 => 167 | 58 => 168 | 33 => 92 | n => n, fun | n => n⟩
theorem Tryz.sortedS : Go.Proofs.SlLaysZ.n6 Tryz.prog Tryz.sortedS_ren := {
  mixed := by kernel_rfl
  f6 := ⟨Tryz.f39.name, by decide, Tryz.func39.trans (congrArg some (by kernel_rfl))⟩
  f8 := ⟨Tryz.f64.name, by decide, Tryz.func64.trans (congrArg some (by kernel_rfl))⟩
  f11 := ⟨Tryz.f82.name, by decide, Tryz.func82.trans (congrArg some (by kernel_rfl))⟩
  t0 := Tryz.underlying0
  a0 := Tryz.isAgg0
  z0 := Tryz.sizeOf0
  v0 := Tryz.zeroValue0
  t24 := Tryz.underlying42
  a24 := Tryz.isAgg42
  z24 := Tryz.sizeOf42
  v24 := Tryz.zeroValue42
  t26 := Tryz.underlying9
  a26 := Tryz.isAgg9
  z26 := Tryz.sizeOf9
  v26 := Tryz.zeroValue9
  t28 := Tryz.underlying87
  a28 := Tryz.isAgg87
  z28 := Tryz.sizeOf87
  v28 := Tryz.zeroValue87
  i26 := by kernel_rfl }
def Tryz.sortS_ren : Go.Shelf.Ren := ⟨fun | 6 => 65 | 8 => 84 | 9 => 83 | 19 => 104 | 20 => 105 | 21 => 95 | 22 => 96 | 23 => 97 | 24 => 98 | 25 => 99 | 26 => 100 | 27 => 101 | 28 => 102 | 29 => 103 | 36 => 108 | 31 => 109 | 32 => 110 | 37 => 111 | 38 => 112 | 39 => 113 | 41 => 114 | n => n, fun | 27 => 42 | 29 => 9 | 3 => 3 | 32 => 141 | 26 => 42 | 0 => 0 | 44 => 127 | 46 => 40 | 4 => 4 | 36 => 152 | 35 => 151 | 41 => 93 | 5 => 5 | 9 => 9 | 53 => 162 | 57 => 165 | 63 => 167 | 64 => 168 | n => n, fun | n => n⟩
theorem Tryz.sortS : Go.Proofs.SlLaysM.n6 Tryz.prog Tryz.sortS_ren := {
  mixed := by kernel_rfl
  f6 := ⟨Tryz.f65.name, by decide, Tryz.func65.trans (congrArg some (by kernel_rfl))⟩
  f8 := Tryz.func84.trans (congrArg some (by kernel_rfl))
  f9 := ⟨Tryz.f83.name, by decide, Tryz.func83.trans (congrArg some (by kernel_rfl))⟩
  f19 := Tryz.func104.trans (congrArg some (by kernel_rfl))
  f20 := Tryz.func105.trans (congrArg some (by kernel_rfl))
  f21 := ⟨Tryz.f95.name, by decide, Tryz.func95.trans (congrArg some (by kernel_rfl))⟩
  f22 := ⟨Tryz.f96.name, by decide, Tryz.func96.trans (congrArg some (by kernel_rfl))⟩
  f23 := ⟨Tryz.f97.name, by decide, Tryz.func97.trans (congrArg some (by kernel_rfl))⟩
  f24 := ⟨Tryz.f98.name, by decide, Tryz.func98.trans (congrArg some (by kernel_rfl))⟩
  f25 := ⟨Tryz.f99.name, by decide, Tryz.func99.trans (congrArg some (by kernel_rfl))⟩
  f26 := ⟨Tryz.f100.name, by decide, Tryz.func100.trans (congrArg some (by kernel_rfl))⟩
  f27 := ⟨Tryz.f101.name, by decide, Tryz.func101.trans (congrArg some (by kernel_rfl))⟩
  f28 := ⟨Tryz.f102.name, by decide, Tryz.func102.trans (congrArg some (by kernel_rfl))⟩
  f29 := ⟨Tryz.f103.name, by decide, Tryz.func103.trans (congrArg some (by kernel_rfl))⟩
  f31 := Tryz.func109.trans (congrArg some (by kernel_rfl))
  f32 := Tryz.func110.trans (congrArg some (by kernel_rfl))
  f36 := ⟨Tryz.f108.name, by decide, Tryz.func108.trans (congrArg some (by kernel_rfl))⟩
  f37 := ⟨Tryz.f111.name, by decide, Tryz.func111.trans (congrArg some (by kernel_rfl))⟩
  f38 := ⟨Tryz.f112.name, by decide, Tryz.func112.trans (congrArg some (by kernel_rfl))⟩
  f39 := ⟨Tryz.f113.name, by decide, Tryz.func113.trans (congrArg some (by kernel_rfl))⟩
  f41 := ⟨Tryz.f114.name, by decide, Tryz.func114.trans (congrArg some (by kernel_rfl))⟩
  t0 := Tryz.underlying0
  a0 := Tryz.isAgg0
  z0 := Tryz.sizeOf0
  v0 := Tryz.zeroValue0
  t3 := Tryz.underlying3
  a3 := Tryz.isAgg3
  z3 := Tryz.sizeOf3
  v3 := Tryz.zeroValue3
  t4 := Tryz.underlying4
  a4 := Tryz.isAgg4
  z4 := Tryz.sizeOf4
  v4 := Tryz.zeroValue4
  t5 := Tryz.underlying5
  a5 := Tryz.isAgg5
  z5 := Tryz.sizeOf5
  v5 := Tryz.zeroValue5
  t9 := Tryz.underlying9
  a9 := Tryz.isAgg9
  z9 := Tryz.sizeOf9
  v9 := Tryz.zeroValue9
  t26 := Tryz.underlying42
  a26 := Tryz.isAgg42
  z26 := Tryz.sizeOf42
  v26 := Tryz.zeroValue42
  t27 := Tryz.underlying42
  a27 := Tryz.isAgg42
  z27 := Tryz.sizeOf42
  v27 := Tryz.zeroValue42
  t29 := Tryz.underlying9
  a29 := Tryz.isAgg9
  z29 := Tryz.sizeOf9
  v29 := Tryz.zeroValue9
  t32 := Tryz.underlying141
  a32 := Tryz.isAgg141
  z32 := Tryz.sizeOf141
  v32 := Tryz.zeroValue141
  t35 := Tryz.underlying151
  a35 := Tryz.isAgg151
  z35 := Tryz.sizeOf151
  v35 := Tryz.zeroValue151
  t36 := Tryz.underlying152
  a36 := Tryz.isAgg152
  z36 := Tryz.sizeOf152
  v36 := Tryz.zeroValue152
  t41 := Tryz.underlying93
  a41 := Tryz.isAgg93
  z41 := Tryz.sizeOf93
  v41 := Tryz.zeroValue93
  t44 := Tryz.underlying127
  a44 := Tryz.isAgg127
  z44 := Tryz.sizeOf127
  v44 := Tryz.zeroValue127
  t46 := Tryz.underlying40
  a46 := Tryz.isAgg40
  z46 := Tryz.sizeOf40
  v46 := Tryz.zeroValue40
  t53 := Tryz.underlying162
  a53 := Tryz.isAgg162
  z53 := Tryz.sizeOf162
  v53 := Tryz.zeroValue162
  t57 := Tryz.underlying165
  a57 := Tryz.isAgg165
  z57 := Tryz.sizeOf165
  v57 := Tryz.zeroValue165
  t63 := Tryz.underlying167
  a63 := Tryz.isAgg167
  z63 := Tryz.sizeOf167
  v63 := Tryz.zeroValue167
  t64 := Tryz.underlying168
  a64 := Tryz.isAgg168
  z64 := Tryz.sizeOf168
  v64 := Tryz.zeroValue168 }
end Go.Proofs

/- The sorted keys of a map, by the library's contracts laid at this program. -/
namespace Go.Proofs
open Go.RowKit Go.Maps Go.Sort Go.Shelf
/-- slices.Sort's two contracts at this dump, at the fence that asks nothing. -/
theorem Tryz.sortsS (m : Nat) : AnyZ.SortsIn Tryz.prog Tryz.sortedS_ren Fence.wide m :=
  ⟨fun blk off cap ss W hH hblk hsz => callsIn_wide.2 (AnyM.slices_Sort_string Tryz.sortS blk off cap ss W hH hblk hsz),
   fun p cap W => callsIn_wide.2 (AnyM.slices_Sort_string_none Tryz.sortS p cap W)⟩


/-- The sorted keys of a map that is not nil, whichever block the iterator has captured. -/
theorem Tryz.sorted_keys_at {H : Type} (a b nn : Nat) (D0 : DataW H) (R : Value → Option (DataW H × List MemPlace)) (W : World) (hown : W.ownsMap Tryz.prog 9 R b nn D0) (hcell : W.cell? ⟨a, 0, none⟩ = some (.map (some b))) (ha : a < W.heap.size)
    (hmax : Maps.size D0 ≤ maxLen) (hbytes : Maps.size D0 * 16 ≤ 140737488355328) :
    Calls Tryz.prog 39 #[.func (.func 66) #[] #[.pointer (some ⟨a, 0, none⟩)]] W fun e w' => ∃ (v : Value) (ss : List (List UInt8)), e = .returned v ∧ ss.Perm (strKeys D0) ∧
      w'.ownsRow W.heap.size 9 1 v ss.length ((ss.mergeSort (fun x y => decide (x ≤ y))).map encStr) ∧ (v = .slice none 0 0 ↔ ss = []) ∧ Below W.heap.size W w' := by
  have hseq : SeqGives Fence.wide 2 Tryz.prog 66 #[.pointer (some ⟨a, 0, none⟩)] encStr (fun ss => ss.Perm (strKeys D0)) (Maps.size D0) W :=
    AnyZ.keys_gives (ρ := Tryz.keysS_ren) { Tryz.keysS with } Fence.wide _ trivial rfl (by omega) a b nn D0 W ha hcell hown
  exact callsIn_wide.1 (AnyZ.sorted_in Tryz.sortedS Fence.wide 5 trivial trivial trivial trivial rfl (by omega) (Tryz.sortsS _) (enters_of Tryz.func65 (by kernel_rfl) rfl) 66 #[.pointer (some ⟨a, 0, none⟩)] trivial (enters_of Tryz.func66 (by kernel_rfl) rfl) _ _ hmax hbytes _ hseq)

/-- The same for the nil map: nil. -/
theorem Tryz.sorted_keys_nil_at (a : Nat) (W : World) (hcell : W.cell? ⟨a, 0, none⟩ = some (.map none)) (ha : a < W.heap.size) :
    Calls Tryz.prog 39 #[.func (.func 66) #[] #[.pointer (some ⟨a, 0, none⟩)]] W fun e w' => ∃ (v : Value) (ss : List (List UInt8)), e = .returned v ∧ ss = [] ∧
      w'.ownsRow W.heap.size 9 1 v ss.length ((ss.mergeSort (fun x y => decide (x ≤ y))).map encStr) ∧ (v = .slice none 0 0 ↔ ss = []) ∧ Below W.heap.size W w' := by
  have hseq : SeqGives Fence.wide 2 Tryz.prog 66 #[.pointer (some ⟨a, 0, none⟩)] encStr (fun ss : List (List UInt8) => ss = []) 0 W :=
    AnyZ.keys_gives_nil (ρ := Tryz.keysS_ren) { Tryz.keysS with } Fence.wide _ trivial rfl a W ha hcell
  exact callsIn_wide.1 (AnyZ.sorted_in Tryz.sortedS Fence.wide 5 trivial trivial trivial trivial rfl (by omega) (Tryz.sortsS _) (enters_of Tryz.func65 (by kernel_rfl) rfl) 66 #[.pointer (some ⟨a, 0, none⟩)] trivial (enters_of Tryz.func66 (by kernel_rfl) rfl) _ 0 (Nat.zero_le _) (by omega) _ hseq)
end Go.Proofs

/- The disk: what it is (as lists), how it lies in memory, and that it stays where its blocks stay. -/
namespace Go.Proofs.YtldkeelgnfegeaaGreat
open Go Go.RowKit Go.By

inductive ByteOp where
  | write (off : Nat) (b : List Nat)
  | cut (n : Nat)
inductive NameOp where
  | create (s : ByteArray) (n : Nat)
  | rename (s t : ByteArray)
  | remove (s : ByteArray)
structure FileA where
  seen : List Nat
  kept : List Nat
  laid : List ByteOp
structure DiskA where
  room : Int
  used : Int
  ops : Nat
  left : Nat
  made : Nat
  seen : List (ByteArray × Nat)
  kept : List (ByteArray × Nat)
  laid : List NameOp
  fm : List (Nat × Nat)
  cont : Nat → FileA

/-- What a block is to the disk. -/
inductive Role where
  | disk | seen | kept | laid | files | ink
  | file (n : Nat) | fseen (n : Nat) | fkept (n : Nat) | flaid (n : Nat)
deriving DecidableEq

abbrev Own := Nat → Option Role

/-- A step that turns the disk's own blocks alone, but for ink. -/
structure Steps (own own' : Own) (w w' : World) : Prop where
  os : w'.os = w.os
  tape : w'.tape = w.tape
  output : w'.output = w.output
  size : w.heap.size ≤ w'.heap.size
  block : ∀ k, k < w.heap.size → (own k = none ∨ own k = some .ink) → w'.heap[k]? = w.heap[k]?
  same : ∀ k, k < w.heap.size → own' k = own k

theorem Steps.refl (own : Own) (w : World) : Steps own own w w := ⟨rfl, rfl, rfl, Nat.le_refl _, fun _ _ _ => rfl, fun _ _ => rfl⟩
theorem Steps.trans {o1 o2 o3 : Own} {w1 w2 w3 : World} (h : Steps o1 o2 w1 w2) (k : Steps o2 o3 w2 w3) : Steps o1 o3 w1 w3 :=
  ⟨k.os.trans h.os, k.tape.trans h.tape, k.output.trans h.output, Nat.le_trans h.size k.size,
    fun b hb hn => (k.block b (Nat.lt_of_lt_of_le hb h.size) (by rw [h.same b hb]; exact hn)).trans (h.block b hb hn),
    fun b hb => (k.same b (Nat.lt_of_lt_of_le hb h.size)).trans (h.same b hb)⟩
theorem Steps.below {own own' : Own} {w w' : World} {B : Nat} (h : Steps own own' w w') (hB : B ≤ w.heap.size) (ho : ∀ k r, own k = some r → B ≤ k) : Below B w w' :=
  ⟨h.os, h.tape, h.output, h.size, fun k hk => h.block k (by omega) (by
    cases hr : own k with
    | none => exact .inl rfl
    | some r => have := ho k r hr; omega)⟩
theorem Steps.of_below {own : Own} {w w' : World} (h : Below w.heap.size w w') : Steps own own w w' :=
  ⟨h.os, h.tape, h.output, h.size, fun k hk _ => h.block k hk, fun _ _ => rfl⟩
/-- Only the disk's blocks of this role are turned. -/
theorem Steps.of_grown {own : Own} {w w' : World} {g : Nat} (h : w.grownBy w' (some g)) {r : Role} (hg : own g = some r) (hr : r ≠ .ink) : Steps own own w w' :=
  ⟨h.os, h.tape, h.output, h.size, fun k hk hn => h.block k hk (by
    intro he; cases he
    rcases hn with hn | hn
    · rw [hg] at hn; cases hn
    · rw [hg] at hn; cases hn; exact hr rfl), fun _ _ => rfl⟩

/-- Blocks of these roles are as they were, and have their roles still. -/
structure Stay (own own' : Own) (R : Role → Prop) (w w' : World) : Prop where
  role : ∀ k r, own k = some r → own' k = some r
  block : ∀ k r, own k = some r → R r → w'.heap[k]? = w.heap[k]?
theorem Stay.weaken {own own' : Own} {R R' : Role → Prop} {w w' : World} (h : Stay own own' R w w') (hR : ∀ r, R' r → R r) : Stay own own' R' w w' :=
  ⟨h.role, fun k r hk hr => h.block k r hk (hR r hr)⟩

def strV (s : ByteArray) : Value := .string s
def natV (n : Nat) : Value := .int .i64 n
def ptrV (b : Nat) : Value := .pointer (some ⟨b, 0, none⟩)

/-- A map's value. -/
def MapV {α β : Type} [DecidableEq α] (w : World) (own : Own) (r : Role) (v : Value) (mk : α → Value) (mv : β → Value) (m : List (α × β)) : Prop :=
  (v = .map none ∧ m = []) ∨ ∃ b, v = .map (some b) ∧ own b = some r ∧ Mp.Is w b mk mv m
theorem MapV.stay {α β : Type} [DecidableEq α] {w w' : World} {own own' : Own} {r : Role} {v : Value} {mk : α → Value} {mv : β → Value} {m : List (α × β)} (h : MapV w own r v mk mv m) {R : Role → Prop} (hs : Stay own own' R w w') (hr : R r) : MapV w' own' r v mk mv m := by
  rcases h with h | ⟨b, rfl, hb, hm⟩
  · exact .inl h
  · exact .inr ⟨b, rfl, hs.role b r hb, hm.of_heap (hs.block b r hb hr)⟩

/-- A row of bytes of the disk's own. -/
structure RowV (w : World) (own : Own) (r : Role) (v : Value) (l : List Nat) : Prop where
  owns : w.ownsRow 0 5 1 v l.length (cellsOf l)
  role : ∀ k, v.ownBlock = some k → own k = some r
  small : ∀ c ∈ l, c < 256
theorem ownsRow_of_heap {w w' : World} {base : Nat} {e : TypeId} {size : Nat} {v : Value} {n : Nat} {xs : List Value} (h : w.ownsRow base e size v n xs) (hb : ∀ k, v.ownBlock = some k → w'.heap[k]? = w.heap[k]?) : w'.ownsRow base e size v n xs := by
  refine ⟨h.1, ?_⟩
  rcases h.2 with hn | ⟨g, cap, cur, rfl, h1, h2, rest⟩
  · exact .inl hn
  · exact .inr ⟨g, cap, cur, rfl, h1, (hb g rfl).trans h2, rest⟩
theorem RowV.stay {w w' : World} {own own' : Own} {r : Role} {v : Value} {l : List Nat} (h : RowV w own r v l) {R : Role → Prop} (hs : Stay own own' R w w') (hr : R r) : RowV w' own' r v l :=
  ⟨ownsRow_of_heap h.owns fun k hk => hs.block k r (h.role k hk) hr, fun k hk => hs.role k r (h.role k hk), h.small⟩
theorem RowV.bytes {w : World} {own : Own} {r : Role} {v : Value} {l : List Nat} (h : RowV w own r v l) (hm : l.length ≤ maxLen) : Bytes w v l := Bytes.of_owns h.owns h.small hm
theorem RowV.nil (w : World) (own : Own) (r : Role) : RowV w own r (.slice none 0 0) [] := ⟨World.ownsRow_nil _ _ _ _, fun k hk => (by cases hk), fun c hc => (by cases hc)⟩

/-- An operation that was laid by. -/
def OpV (w : World) (own : Own) (c : Value) : ByteOp → Prop
  | .write off b => ∃ bv, c = .func (.func 70) #[.agg #[.int .i64 off, bv]] #[] ∧ Bytes w bv b ∧ (∀ k, bv.ownBlock = some k → own k = some .ink) ∧ 0 < b.length ∧ off ≤ 16777216 ∧ b.length ≤ 1048576
  | .cut n => c = .func (.func 51) #[.agg #[.int .i64 n]] #[] ∧ n ≤ 16777216
def OpsV (w : World) (own : Own) : List Value → List ByteOp → Prop
  | [], l => l = []
  | c :: cs, l => ∃ o os, l = o :: os ∧ OpV w own c o ∧ OpsV w own cs os
def nameV : NameOp → Value
  | .create s n => .func (.func 46) #[.agg #[.string s, .int .i64 n]] #[]
  | .rename s t => .func (.func 63) #[.agg #[.string s, .string t]] #[]
  | .remove s => .func (.func 53) #[.agg #[.string s]] #[]

theorem Bytes.stay {w w' : World} {own own' : Own} {R : Role → Prop} {v : Value} {l : List Nat} (h : Bytes w v l) (ho : ∀ k, v.ownBlock = some k → own k = some .ink) (hs : Stay own own' R w w') (hr : R .ink) : Bytes w' v l where
  out := by
    rcases h.out with h1 | h1 | ⟨b, off, cap, rfl, h2, hc⟩
    · exact .inl h1
    · exact .inr (.inl h1)
    · exact .inr (.inr ⟨b, off, cap, rfl, h2, fun i hi => (World.cell?_of_block (hs.block b .ink (ho b rfl) hr)).trans (hc i hi)⟩)
  small := h.small
  short := h.short
theorem OpV.stay {w w' : World} {own own' : Own} {R : Role → Prop} {c : Value} {o : ByteOp} (h : OpV w own c o) (hs : Stay own own' R w w') (hr : R .ink) : OpV w' own' c o := by
  cases o with
  | write off b => obtain ⟨bv, h1, h2, h3, h4⟩ := h; exact ⟨bv, h1, Bytes.stay h2 h3 hs hr, fun k hk => hs.role k _ (h3 k hk), h4⟩
  | cut n => exact h
theorem OpsV.stay {w w' : World} {own own' : Own} {R : Role → Prop} (hs : Stay own own' R w w') (hr : R .ink) : ∀ {cs : List Value} {l : List ByteOp}, OpsV w own cs l → OpsV w' own' cs l
  | [], _, h => h
  | _ :: _, _, h => let ⟨o, os, h1, h2, h3⟩ := h; ⟨o, os, h1, h2.stay hs hr, h3.stay hs hr⟩
theorem OpsV.length {w : World} {own : Own} : ∀ {cs : List Value} {l : List ByteOp}, OpsV w own cs l → cs.length = l.length
  | [], _, h => by simp only [OpsV] at h; subst h; rfl
  | _ :: _, _, h => by obtain ⟨o, os, rfl, _, h3⟩ := h; simp [h3.length]
theorem OpsV.snoc {w : World} {own : Own} {c : Value} {o : ByteOp} (ho : OpV w own c o) : ∀ {cs : List Value} {l : List ByteOp}, OpsV w own cs l → OpsV w own (cs ++ [c]) (l ++ [o])
  | [], _, h => by simp only [OpsV] at h; subst h; exact ⟨o, [], rfl, ho, rfl⟩
  | _ :: _, _, h => by obtain ⟨o', os, rfl, h2, h3⟩ := h; exact ⟨o', _, rfl, h2, h3.snoc ho⟩
theorem OpsV.get {w : World} {own : Own} : ∀ {cs : List Value} {l : List ByteOp}, OpsV w own cs l → ∀ (i : Nat) (o : ByteOp), l[i]? = some o → ∃ c, cs[i]? = some c ∧ OpV w own c o
  | [], _, h, i, o, hi => by simp only [OpsV] at h; subst h; cases hi
  | c :: cs, _, h, 0, o, hi => by obtain ⟨o', os, rfl, h2, h3⟩ := h; cases hi; exact ⟨c, rfl, h2⟩
  | c :: cs, _, h, i + 1, o, hi => by obtain ⟨o', os, rfl, h2, h3⟩ := h; simpa using h3.get i o (by simpa using hi)

/-- A file, in its block. -/
structure FileIs (w : World) (own : Own) (n fb : Nat) (F : FileA) : Prop where
  out : ∃ sv kv lv cs, w.heap[fb]? = some (.cells #[sv, kv, lv] 75 (0, 0)) ∧ RowV w own (.fseen n) sv F.seen ∧ RowV w own (.fkept n) kv F.kept ∧
    w.ownsRow 0 113 1 lv F.laid.length cs ∧ (∀ k, lv.ownBlock = some k → own k = some (.flaid n)) ∧ OpsV w own cs F.laid
  role : own fb = some (.file n)
  bareF : ∀ lv, w.cell? ⟨fb, 2, none⟩ = some lv → F.laid = [] → lv = .slice none 0 0
theorem third_cell {w : World} {fb : Nat} {c : Array Value} {t : TypeId} {fr : Nat × Nat} (h : w.heap[fb]? = some (.cells c t fr)) {x : Value} (hx : c[2]? = some x) {lv : Value} (hl : w.cell? ⟨fb, 2, none⟩ = some lv) : lv = x := by
  rw [cell_of_row w fb 2 c t fr h, hx] at hl
  exact (Option.some.inj hl).symm
theorem FileIs.stay {w w' : World} {own own' : Own} {R : Role → Prop} {n fb : Nat} {F : FileA} (h : FileIs w own n fb F) (hs : Stay own own' R w w') (h1 : R (.file n)) (h2 : R (.fseen n)) (h3 : R (.fkept n)) (h4 : R (.flaid n)) (h5 : R .ink) : FileIs w' own' n fb F := by
  obtain ⟨⟨sv, kv, lv, cs, g1, g2, g3, g4, g5, g6⟩, hr, hbf⟩ := h
  exact ⟨⟨sv, kv, lv, cs, (hs.block fb _ hr h1).trans g1, g2.stay hs h2, g3.stay hs h3, ownsRow_of_heap g4 fun k hk => hs.block k _ (g5 k hk) h4, fun k hk => hs.role k _ (g5 k hk), g6.stay hs h5⟩, hs.role fb _ hr,
    fun lv hl => hbf lv ((World.cell?_of_block (a := ⟨fb, 2, none⟩) (hs.block fb _ hr h1)).symm.trans hl)⟩

/-- All but the disk's own block. -/
structure Parts (w : World) (own : Own) (ms mk mf lv : Value) (D : DiskA) : Prop where
  seen : MapV w own .seen ms strV natV D.seen
  kept : MapV w own .kept mk strV natV D.kept
  laid : w.ownsRow 0 109 1 lv D.laid.length (D.laid.map nameV)
  laidR : ∀ k, lv.ownBlock = some k → own k = some .laid
  files : MapV w own .files mf natV ptrV D.fm
  each : ∀ n fb, Mp.get D.fm n = some fb → FileIs w own n fb (D.cont n)
  bare : mk = .map none → D.seen = [] ∧ D.fm = [] ∧ D.laid = []
  full : mk ≠ .map none → ms ≠ .map none ∧ mf ≠ .map none
  bareL : D.laid = [] → lv = .slice none 0 0
theorem Parts.stay {w w' : World} {own own' : Own} {ms mk mf lv : Value} {D : DiskA} (h : Parts w own ms mk mf lv D) (hs : Stay own own' (· ≠ .disk) w w') : Parts w' own' ms mk mf lv D where
  seen := h.seen.stay hs (by decide)
  kept := h.kept.stay hs (by decide)
  laid := ownsRow_of_heap h.laid fun k hk => hs.block k _ (h.laidR k hk) (by decide)
  laidR := fun k hk => hs.role k _ (h.laidR k hk)
  files := h.files.stay hs (by decide)
  each := fun n fb hn => (h.each n fb hn).stay hs (by simp) (by simp) (by simp) (by simp) (by simp)
  bare := h.bare
  full := h.full
  bareL := h.bareL

/-- What holds of a disk's lists. -/
structure DiskA.Ok (D : DiskA) : Prop where
  seenIn : ∀ s n, Mp.get D.seen s = some n → (Mp.get D.fm n).isSome = true
  keptIn : ∀ s n, Mp.get D.kept s = some n → (Mp.get D.fm n).isSome = true
  laidIn : ∀ s n, NameOp.create s n ∈ D.laid → (Mp.get D.fm n).isSome = true
  made : ∀ n, (Mp.get D.fm n).isSome = true → n ≤ D.made

/-- The disk, in its block. -/
structure DiskIs (w : World) (own : Own) (a : Nat) (D : DiskA) : Prop where
  out : ∃ ms mk mf lv, w.heap[a]? = some (.cells #[.int .i64 D.room, .int .i64 D.used, .int .i64 D.ops, .int .i64 D.left, ms, mk, lv, .int .i64 D.made, mf] 56 (0, 0)) ∧ Parts w own ms mk mf lv D
  role : own a = some .disk
  only : ∀ k, own k = some .disk → k = a
  here : ∀ k r, own k = some r → k < w.heap.size

/-- Where another's steps do not touch it, it stays. -/
theorem DiskIs.beside {w w' : World} {own o1 o2 : Own} {a : Nat} {D : DiskA} (h : DiskIs w own a D) (hs : Steps o1 o2 w w') (hd : ∀ k r, own k = some r → o1 k = none ∨ o1 k = some .ink) : DiskIs w' own a D := by
  have hk : ∀ k r, own k = some r → w'.heap[k]? = w.heap[k]? := fun k r hr => hs.block k (h.here k r hr) (hd k r hr)
  obtain ⟨⟨ms, mk, mf, lv, h1, h2⟩, hr, ho, hh⟩ := h
  exact ⟨⟨ms, mk, mf, lv, (hk a _ hr).trans h1, h2.stay ⟨fun _ _ h => h, fun k r h _ => hk k r h⟩⟩, hr, ho, fun k r h => Nat.lt_of_lt_of_le (hh k r h) hs.size⟩
end Go.Proofs.YtldkeelgnfegeaaGreat

/- The disk: an operation begins. -/
namespace Go.Proofs.YtldkeelgnfegeaaGreat
open Go Go.RowKit Go.By

theorem cells_of {w : World} {a : Nat} {c : Array Value} {t : TypeId} {fr : Nat × Nat} (h : w.heap[a]? = some (.cells c t fr)) (i : Nat) : w.cell? ⟨a, i, none⟩ = c[i]? := cell_of_row w a i c t fr h
theorem free_of {w : World} {a : Nat} {c : Array Value} {t : TypeId} (h : w.heap[a]? = some (.cells c t (0, 0))) (i : Nat) : w.frozen? ⟨a, i, none⟩ = false := frozen_of_row w a i c t h

theorem set_heap {w : World} {a : Nat} {c : Array Value} {t : TypeId} (h : w.heap[a]? = some (.cells c t (0, 0))) (i : Nat) (v : Value) :
    (w.setCell ⟨a, i, none⟩ v).heap[a]? = some (.cells (c.setIfInBounds i v) t (0, 0)) ∧ ∀ k, k ≠ a → (w.setCell ⟨a, i, none⟩ v).heap[k]? = w.heap[k]? :=
  ⟨heap_setCell_same w a i c t v h, fun k hk => heap_setCell_other w ⟨a, i, none⟩ k v (fun e => hk e)⟩

/-- The disk's block is turned, its parts stay. -/
theorem DiskIs.turn {w w' : World} {own : Own} {a : Nat} {D D' : DiskA} (h : DiskIs w own a D) (hk : ∀ k, k ≠ a → w'.heap[k]? = w.heap[k]?) (hs : w.heap.size ≤ w'.heap.size)
    (ho : ∀ ms mk mf lv, w.heap[a]? = some (.cells #[.int .i64 D.room, .int .i64 D.used, .int .i64 D.ops, .int .i64 D.left, ms, mk, lv, .int .i64 D.made, mf] 56 (0, 0)) → Parts w own ms mk mf lv D →
      ∃ ms mk mf lv, w'.heap[a]? = some (.cells #[.int .i64 D'.room, .int .i64 D'.used, .int .i64 D'.ops, .int .i64 D'.left, ms, mk, lv, .int .i64 D'.made, mf] 56 (0, 0)) ∧ Parts w own ms mk mf lv D') : DiskIs w' own a D' := by
  obtain ⟨⟨ms, mk, mf, lv, h1, h2⟩, hr, hon, hh⟩ := h
  obtain ⟨ms', mk', mf', lv', g1, g2⟩ := ho ms mk mf lv h1 h2
  refine ⟨⟨ms', mk', mf', lv', g1, g2.stay ⟨fun _ _ h => h, fun k r hkr hne => hk k ?_⟩⟩, hr, hon, fun k r h => Nat.lt_of_lt_of_le (hh k r h) hs⟩
  rintro rfl
  rw [hr] at hkr; cases hkr; exact hne rfl

def DiskA.begin (D : DiskA) (may : Bool) : DiskA × Int :=
  if D.left = 1 then ({ D with ops := D.ops + 1, left := 0 }, 5)
  else ({ D with ops := D.ops + 1, left := D.left - 1 }, if may then 0 else 1)

theorem parts_numbers {w : World} {own : Own} {ms mk mf lv : Value} {D D' : DiskA} (h : Parts w own ms mk mf lv D) (h1 : D'.seen = D.seen) (h2 : D'.kept = D.kept) (h3 : D'.laid = D.laid) (h4 : D'.fm = D.fm) (h5 : D'.cont = D.cont) : Parts w own ms mk mf lv D' where
  seen := by rw [h1]; exact h.seen
  kept := by rw [h2]; exact h.kept
  laid := by rw [h3]; exact h.laid
  laidR := h.laidR
  files := by rw [h4]; exact h.files
  each := by rw [h4, h5]; exact h.each
  bare := by rw [h1, h3, h4]; exact h.bare
  full := h.full
  bareL := by rw [h3]; exact h.bareL

def diskCells (D : DiskA) (ms mk lv mf : Value) : Array Value := #[.int .i64 D.room, .int .i64 D.used, .int .i64 D.ops, .int .i64 D.left, ms, mk, lv, .int .i64 D.made, mf]
/-- One of the disk's cells is set. -/
theorem DiskIs.set {w : World} {own : Own} {a : Nat} {D D' : DiskA} (h : DiskIs w own a D) (i : Nat) (v : Value)
    (hc : ∀ ms mk mf lv, w.heap[a]? = some (.cells (diskCells D ms mk lv mf) 56 (0, 0)) → Parts w own ms mk mf lv D → ∃ ms' mk' mf' lv', (diskCells D ms mk lv mf).setIfInBounds i v = diskCells D' ms' mk' lv' mf' ∧ Parts w own ms' mk' mf' lv' D') :
    DiskIs (w.setCell ⟨a, i, none⟩ v) own a D' ∧ Steps own own w (w.setCell ⟨a, i, none⟩ v) := by
  obtain ⟨ms0, mk0, mf0, lv0, h1, _⟩ := h.out
  have s1 := set_heap h1 i v
  refine ⟨h.turn s1.2 (by simp) fun ms mk mf lv q1 q2 => ?_, ?_⟩
  · obtain ⟨ms', mk', mf', lv', e, q3⟩ := hc ms mk mf lv q1 q2
    refine ⟨ms', mk', mf', lv', ?_, q3⟩
    have := (set_heap q1 i v).1
    rw [this]
    exact congrArg some (congrArg (fun x => Obj.cells x 56 (0, 0)) e)
  · exact ⟨rfl, rfl, rfl, by simp, fun k _ hn => s1.2 k (by rintro rfl; rw [h.role] at hn; simp at hn), fun _ _ => rfl⟩
theorem DiskIs.setOps {w : World} {own : Own} {a : Nat} {D : DiskA} (h : DiskIs w own a D) (n : Nat) :
    DiskIs (w.setCell ⟨a, 2, none⟩ (.int .i64 n)) own a { D with ops := n } ∧ Steps own own w (w.setCell ⟨a, 2, none⟩ (.int .i64 n)) :=
  h.set 2 _ fun ms mk mf lv _ q => ⟨ms, mk, mf, lv, rfl, parts_numbers q rfl rfl rfl rfl rfl⟩
theorem DiskIs.setLeft {w : World} {own : Own} {a : Nat} {D : DiskA} (h : DiskIs w own a D) (n : Nat) :
    DiskIs (w.setCell ⟨a, 3, none⟩ (.int .i64 n)) own a { D with left := n } ∧ Steps own own w (w.setCell ⟨a, 3, none⟩ (.int .i64 n)) :=
  h.set 3 _ fun ms mk mf lv _ q => ⟨ms, mk, mf, lv, rfl, parts_numbers q rfl rfl rfl rfl rfl⟩
theorem DiskIs.setUsed {w : World} {own : Own} {a : Nat} {D : DiskA} (h : DiskIs w own a D) (n : Int) :
    DiskIs (w.setCell ⟨a, 1, none⟩ (.int .i64 n)) own a { D with used := n } ∧ Steps own own w (w.setCell ⟨a, 1, none⟩ (.int .i64 n)) :=
  h.set 1 _ fun ms mk mf lv _ q => ⟨ms, mk, mf, lv, rfl, parts_numbers q rfl rfl rfl rfl rfl⟩
theorem DiskIs.setMade {w : World} {own : Own} {a : Nat} {D : DiskA} (h : DiskIs w own a D) (n : Nat) :
    DiskIs (w.setCell ⟨a, 7, none⟩ (.int .i64 n)) own a { D with made := n } ∧ Steps own own w (w.setCell ⟨a, 7, none⟩ (.int .i64 n)) :=
  h.set 7 _ fun ms mk mf lv _ q => ⟨ms, mk, mf, lv, rfl, parts_numbers q rfl rfl rfl rfl rfl⟩

set_option maxRecDepth 100000 in
theorem begin_any (own : Own) (a : Nat) (D : DiskA) (may : Bool) (w : World) (h : DiskIs w own a D) (ho : D.ops < 4611686018427387904) (hl : D.left < 4611686018427387904) :
    Calls Tryz.prog 24 #[.pointer (some ⟨a, 0, none⟩), .bool may] w fun e w' => e = .returned (.int .i64 (D.begin may).2) ∧ DiskIs w' own a (D.begin may).1 ∧ Steps own own w w' := by
  obtain ⟨ms, mk, mf, lv, h1, h2⟩ := h.out
  have g2 : w.cell? ⟨a, 2, none⟩ = some (.int .i64 D.ops) := cells_of h1 2
  have g3 : w.cell? ⟨a, 3, none⟩ = some (.int .i64 D.left) := cells_of h1 3
  have f := free_of h1
  have s1 := h.setOps (D.ops + 1)
  have s2 := s1.1.setLeft (D.left - 1)
  have S1 := Lib.hid s1
  have S2 := Lib.hid s2
  clear s1 s2 h h1 h2
  by_cases h0 : D.left = 0
  · have E : Hid (D.begin may = ({ D with ops := D.ops + 1 }, if may then 0 else 1)) := by
      unfold Hid DiskA.begin; rw [if_neg (by omega)]; simp [h0]
    have l0 : ¬ 0 < (D.left : Int) := by omega
    clear h0
    cases may
    all_goals
      go_enter Tryz.func24, Tryz.ntmps24
      go_wp2
      go_ret
      rw [E.out]
      exact ⟨rfl, S1.out.1, S1.out.2⟩
  · by_cases h1 : D.left = 1
    · have E : Hid (D.begin may = ({ D with ops := D.ops + 1, left := 0 }, 5)) := by
        unfold Hid DiskA.begin; rw [if_pos h1]
      have l0 : 0 < (D.left : Int) := by omega
      have l1 : (D.left : Int) - 1 = 0 := by omega
      have l2 : D.left - 1 = 0 := by omega
      rw [l2] at S2
      clear h0 h1 l2
      go_enter Tryz.func24, Tryz.ntmps24
      go_wp2
      go_ret
      rw [E.out]
      exact ⟨rfl, S2.out.1, S1.out.2.trans S2.out.2⟩
    · have E : Hid (D.begin may = ({ D with ops := D.ops + 1, left := D.left - 1 }, if may then 0 else 1)) := by
        unfold Hid DiskA.begin; rw [if_neg h1]
      have l0 : 0 < (D.left : Int) := by omega
      have l1 : (D.left : Int) - 1 = ((D.left - 1 : Nat) : Int) := by omega
      have l3 : ¬ ((D.left - 1 : Nat) : Int) = 0 := by omega
      generalize D.left - 1 = L at *
      clear h0 h1
      cases may
      all_goals
        go_enter Tryz.func24, Tryz.ntmps24
        go_wp2
        go_ret
        rw [E.out]
        exact ⟨rfl, S2.out.1, S1.out.2.trans S2.out.2⟩

def mayName (s : ByteArray) : Bool := decide (1 ≤ s.size) && decide (s.size ≤ 16)
def mayNumber (n : Int) : Bool := decide (0 ≤ n) && decide (n ≤ 16777216)

set_option maxRecDepth 100000 in
theorem mayName_any (s : ByteArray) (w : World) (hs : s.size ≤ maxLen) : Calls Tryz.prog 43 #[.string s] w fun e w' => e = .returned (.bool (mayName s)) ∧ w = w' := by
  unfold maxLen at hs
  by_cases h1 : 1 ≤ (s.size : Int)
  · by_cases h2 : (s.size : Int) ≤ 16
    · have E : Hid (mayName s = true) := by unfold Hid mayName; simp; omega
      go_enter Tryz.func43, Tryz.ntmps43
      go_wp2
      go_ret
      exact ⟨by rw [E.out]; rfl, rfl⟩
    · have E : Hid (mayName s = false) := by unfold Hid mayName; simp; omega
      have d : decide ((s.size : Int) ≤ 16) = false := by simpa using h2
      go_enter Tryz.func43, Tryz.ntmps43
      go_wp2
      go_ret
      exact ⟨by rw [E.out]; rfl, rfl⟩
  · have E : Hid (mayName s = false) := by unfold Hid mayName; simp; omega
    have d : decide (1 ≤ (s.size : Int)) = false := by simpa using h1
    go_enter Tryz.func43, Tryz.ntmps43
    go_wp2
    go_ret
    exact ⟨by rw [E.out]; rfl, rfl⟩

set_option maxRecDepth 100000 in
theorem mayNumber_any (n : Int) (w : World) : Calls Tryz.prog 48 #[.int .i64 n] w fun e w' => e = .returned (.bool (mayNumber n)) ∧ w = w' := by
  by_cases h1 : 0 ≤ n
  · by_cases h2 : n ≤ 16777216
    · have E : Hid (mayNumber n = true) := by unfold Hid mayNumber; simp; omega
      go_enter Tryz.func48, Tryz.ntmps48
      go_wp2
      go_ret
      exact ⟨by rw [E.out]; rfl, rfl⟩
    · have E : Hid (mayNumber n = false) := by unfold Hid mayNumber; simp; omega
      have d : decide (n ≤ 16777216) = false := by simpa using h2
      go_enter Tryz.func48, Tryz.ntmps48
      go_wp2
      go_ret
      exact ⟨by rw [E.out]; rfl, rfl⟩
  · have E : Hid (mayNumber n = false) := by unfold Hid mayNumber; simp; omega
    have d : decide (0 ≤ n) = false := by simpa using h1
    go_enter Tryz.func48, Tryz.ntmps48
    go_wp2
    go_ret
    exact ⟨by rw [E.out]; rfl, rfl⟩
end Go.Proofs.YtldkeelgnfegeaaGreat

/- The disk: a file is found; what is asked without an operation. -/
namespace Go.Proofs.YtldkeelgnfegeaaGreat
open Go Go.RowKit Go.By

theorem namesT : Tryz.prog.underlying 51 = some (.map 9 3) := by kernel_rfl
theorem filesT : Tryz.prog.underlying 54 = some (.map 3 70) := by kernel_rfl
theorem strK : Mp.KeyOf Tryz.prog 9 strV := Mp.KeyOf.string (by kernel_rfl)
theorem KeyNat {P : Program} {kt : TypeId} (h : P.underlying kt = some (.int .i64)) : Mp.KeyOf P kt natV :=
  ⟨.int .i64, h, fun _ => rfl, fun a b => by
    simp only [Instr.sameNow, natV, if_true, Option.some.injEq]
    rw [Bool.eq_iff_iff]; simp [Int.natCast_inj]⟩
theorem natK : Mp.KeyOf Tryz.prog 3 natV := KeyNat (by kernel_rfl)
theorem zeroInt (w : World) : (zeroValue 3).run Tryz.prog w = .ok (.int .i64 0) w := by kernel_rfl
theorem zeroFile (w : World) : (zeroValue 70).run Tryz.prog w = .ok (.pointer none) w := by kernel_rfl

theorem MapV.look {α β : Type} [DecidableEq α] {P : Program} {w : World} {own : Own} {r : Role} {v : Value} {mk : α → Value} {mv : β → Value} {m : List (α × β)} {t kt et : TypeId} (h : MapV w own r v mk mv m)
    (K : Mp.KeyOf P kt mk) (ht : P.underlying t = some (.map kt et)) {z : Value} (hz : (zeroValue et).run P w = .ok z w) (a : α) :
    (Instr.lookup t v (mk a) true).run P w = .ok (.tuple #[((Mp.get m a).map mv).getD z, .bool (Mp.get m a).isSome]) w ∧ (Instr.lookup t v (mk a) false).run P w = .ok (((Mp.get m a).map mv).getD z) w := by
  rcases h with ⟨rfl, rfl⟩ | ⟨b, rfl, _, hm⟩
  · exact Mp.look_nil K ht hz a
  · exact hm.look K ht hz a

/-- What find tells. -/
def Found (own : Own) (a : Nat) (D : DiskA) (s : ByteArray) (err : Int) (w : World) (e : Ending) (w' : World) : Prop :=
  DiskIs w' own a D ∧ Steps own own w w' ∧
  ((err ≠ 0 ∧ e = .returned (.tuple #[.pointer none, .int .i64 err])) ∨
   (err = 0 ∧ Mp.get D.seen s = none ∧ e = .returned (.tuple #[.pointer none, .int .i64 3])) ∨
   (err = 0 ∧ ∃ n fb, Mp.get D.seen s = some n ∧ Mp.get D.fm n = some fb ∧ e = .returned (.tuple #[.pointer (some ⟨fb, 0, none⟩), .int .i64 0])))

set_option maxRecDepth 100000 in
theorem find_any (own : Own) (a : Nat) (D : DiskA) (s : ByteArray) (may : Bool) (w : World) (h : DiskIs w own a D) (hk : D.Ok) (ho : D.ops < 4611686018427387904) (hl : D.left < 4611686018427387904) (hs : s.size ≤ maxLen) :
    Calls Tryz.prog 47 #[.pointer (some ⟨a, 0, none⟩), .string s, .bool may] w (Found own a (D.begin (may && mayName s)).1 s (D.begin (may && mayName s)).2 w) := by
  have HK := Lib.hid hk
  have hbeg : ∀ m, Calls Tryz.prog 24 #[.pointer (some ⟨a, 0, none⟩), .bool m] w fun e w' => e = .returned (.int .i64 (D.begin m).2) ∧ DiskIs w' own a (D.begin m).1 ∧ Steps own own w w' := fun m => begin_any own a D m w h ho hl
  have hok : ∀ m, (D.begin m).1.Ok := fun m => by
    unfold DiskA.begin; split <;> exact ⟨hk.seenIn, hk.keptIn, hk.laidIn, hk.made⟩
  have HB := Lib.hid hbeg
  have HOK := Lib.hid hok
  clear h hk hbeg ho hl hok
  obtain ⟨m, hm⟩ : ∃ m, m = (may && mayName s) := ⟨_, rfl⟩
  rw [← hm]
  have HM := Lib.hid hm; clear hm
  obtain ⟨D1, hD1⟩ : ∃ D1, D1 = (D.begin m).1 := ⟨_, rfl⟩
  obtain ⟨err, herr⟩ : ∃ err, err = (D.begin m).2 := ⟨_, rfl⟩
  have HB1 := Lib.hid (HB.out m)
  have HO1 := Lib.hid (HOK.out m)
  rw [← hD1, ← herr] at HB1 ⊢
  rw [← hD1] at HO1
  clear HB HOK hD1 herr HK
  cases may
  all_goals
    go_enter Tryz.func47, Tryz.ntmps47
    go_wp2_with (go_at_call 43; refine (mayName_any s _ hs).mono ?_; rintro e w1 ⟨rfl, rfl⟩)
    first
      | (have e1 : m = false := by rw [HM.out]; rfl
         rw [e1] at HB1)
      | (have e1 : mayName s = m := by rw [HM.out]; rfl
         rw [e1])
    clear HM e1
    refine HB1.out.mono ?_
    rintro e w1 ⟨rfl, hd, hst⟩
    obtain ⟨ms, mk, mf, lv, h1, h2⟩ := hd.out
    have l1 := (h2.seen.look strK namesT (zeroInt w1) s).1
    have g4 : w1.cell? ⟨a, 4, none⟩ = some ms := cells_of h1 4
    have g8 : w1.cell? ⟨a, 8, none⟩ = some mf := cells_of h1 8
    have H2 := Lib.hid h2
    have HD := Lib.hid hd
    have HST := Lib.hid hst
    clear h1 h2 hd hst
    unfold strV at l1
    by_cases he : err = 0
    · subst he
      cases hg : Mp.get D1.seen s with
      | none =>
        rw [hg] at l1
        simp only [Option.map_none, Option.getD_none, Option.isSome_none] at l1
        have HG := Lib.hid hg; clear hg
        go_wp2
        go_ret2
        exact ⟨HD.out, HST.out, .inr (.inl ⟨rfl, HG.out, rfl⟩)⟩
      | some n =>
        rw [hg] at l1
        simp only [Option.map_some, Option.getD_some, Option.isSome_some, natV] at l1
        have hin := HO1.out.seenIn s n hg
        obtain ⟨fb, hfb⟩ := Option.isSome_iff_exists.1 hin
        have l2 := (H2.out.files.look natK filesT (zeroFile w1) n).2
        rw [hfb] at l2
        simp only [Option.map_some, Option.getD_some, natV, ptrV] at l2
        have HG := Lib.hid hg; clear hg
        have HFB := Lib.hid hfb; clear hfb hin
        go_wp2
        go_ret2
        exact ⟨HD.out, HST.out, .inr (.inr ⟨rfl, n, fb, HG.out, HFB.out, rfl⟩)⟩
    · go_wp2
      go_ret2
      exact ⟨HD.out, HST.out, .inl ⟨he, rfl⟩⟩
end Go.Proofs.YtldkeelgnfegeaaGreat

/- The disk: made; how long a file is; how many operations; Fail. -/
namespace Go.Proofs.YtldkeelgnfegeaaGreat
open Go Go.RowKit Go.By

def DiskA.new (room : Int) : DiskA := { room := if room < 0 then 0 else room, used := 0, ops := 0, left := 0, made := 0, seen := [], kept := [], laid := [], fm := [], cont := fun _ => ⟨[], [], []⟩ }
theorem DiskA.new_ok (room : Int) : (DiskA.new room).Ok := ⟨fun s n h => (by cases h), fun s n h => (by cases h), fun s n h => (by cases h), fun n h => (by cases h)⟩

theorem DiskIs.new (w : World) (room : Int) :
    DiskIs (w.alloc (.cells (diskCells (DiskA.new room) (.map none) (.map none) (.slice none 0 0) (.map none)) 56)) (fun k => if k = w.heap.size then some .disk else none) w.heap.size (DiskA.new room) where
  out := by
    refine ⟨.map none, .map none, .map none, .slice none 0 0, heap_alloc_new w _, ⟨.inl ⟨rfl, rfl⟩, .inl ⟨rfl, rfl⟩, World.ownsRow_nil _ _ _ _, fun k hk => (by cases hk), .inl ⟨rfl, rfl⟩, fun n fb hn => (by cases hn), fun _ => ⟨rfl, rfl, rfl⟩, fun hn => absurd rfl hn, fun _ => rfl⟩⟩
  role := if_pos rfl
  only := by
    intro k hk
    by_cases h : k = w.heap.size
    · exact h
    · simp [h] at hk
  here := by
    intro k r hk
    by_cases h : k = w.heap.size
    · subst h; simp
    · simp [h] at hk

set_option maxRecDepth 100000 in
theorem new_any (room : Int) (w : World) : Calls Tryz.prog 7 #[.int .i64 room] w fun e w' => e = .returned (.pointer (some ⟨w.heap.size, 0, none⟩)) ∧
    DiskIs w' (fun k => if k = w.heap.size then some .disk else none) w.heap.size (DiskA.new room) ∧ Below w.heap.size w w' := by
  have hn := DiskIs.new w room
  have HN := Lib.hid hn; clear hn
  by_cases h : room < 0
  · have hr : (DiskA.new room).room = 0 := by simp [DiskA.new, h]
    unfold diskCells at HN
    rw [hr] at HN
    clear hr
    go_enter Tryz.func7, Tryz.ntmps7
    go_wp2
    go_ret
    exact ⟨rfl, HN.out, (Below.refl _ _).alloc (Nat.le_refl _) _⟩
  · have hr : (DiskA.new room).room = room := by simp [DiskA.new, h]
    unfold diskCells at HN
    rw [hr] at HN
    have h0 : 0 ≤ room := by omega
    clear hr
    go_enter Tryz.func7, Tryz.ntmps7
    go_wp2
    go_ret
    exact ⟨rfl, HN.out, (Below.refl _ _).alloc (Nat.le_refl _) _⟩

/-- How long a file is. -/
def DiskA.size (D : DiskA) (s : ByteArray) : Option Nat := (Mp.get D.seen s).map fun n => (D.cont n).seen.length
def sizeV : Option Nat → Value
  | some n => .tuple #[.int .i64 n, .bool true]
  | none => .tuple #[.int .i64 0, .bool false]

set_option maxRecDepth 100000 in
theorem size_any (own : Own) (a : Nat) (D : DiskA) (s : ByteArray) (w : World) (h : DiskIs w own a D) (hk : D.Ok) :
    Calls Tryz.prog 34 #[.pointer (some ⟨a, 0, none⟩), .string s] w fun e w' => e = .returned (sizeV (D.size s)) ∧ w = w' := by
  obtain ⟨ms, mk, mf, lv, h1, h2⟩ := h.out
  have l1 := (h2.seen.look strK namesT (zeroInt w) s).1
  have g4 : w.cell? ⟨a, 4, none⟩ = some ms := cells_of h1 4
  have g8 : w.cell? ⟨a, 8, none⟩ = some mf := cells_of h1 8
  unfold strV at l1
  cases hg : Mp.get D.seen s with
  | none =>
    rw [hg] at l1
    simp only [Option.map_none, Option.getD_none, Option.isSome_none] at l1
    have E : Hid (D.size s = none) := by unfold Hid DiskA.size; rw [hg]; rfl
    clear h h1 h2 hg hk
    go_enter Tryz.func34, Tryz.ntmps34
    go_wp2
    go_ret2
    exact ⟨by rw [E.out]; rfl, rfl⟩
  | some n =>
    rw [hg] at l1
    simp only [Option.map_some, Option.getD_some, Option.isSome_some, natV] at l1
    obtain ⟨fb, hfb⟩ := Option.isSome_iff_exists.1 (hk.seenIn s n hg)
    have l2 := (h2.files.look natK filesT (zeroFile w) n).2
    rw [hfb] at l2
    simp only [Option.map_some, Option.getD_some, natV, ptrV] at l2
    obtain ⟨⟨sv, kv, lv', cs, f1, f2, _⟩, _⟩ := h2.each n fb hfb
    have gf : w.cell? ⟨fb, 0, none⟩ = some sv := cells_of f1 0
    have E : Hid (D.size s = some (D.cont n).seen.length) := by unfold Hid DiskA.size; rw [hg]; rfl
    obtain ⟨p, cap, rfl⟩ : ∃ p cap, sv = .slice p (D.cont n).seen.length cap := by
      rcases f2.owns.2 with ⟨hv, hl⟩ | ⟨g, cap, _, hv, _⟩
      · exact ⟨none, 0, by rw [hv, hl]⟩
      · exact ⟨_, cap, hv⟩
    clear h h1 h2 hg hk hfb f1 f2
    go_enter Tryz.func34, Tryz.ntmps34
    go_wp2
    go_ret2
    exact ⟨by rw [E.out]; rfl, rfl⟩

end Go.Proofs.YtldkeelgnfegeaaGreat

/- The disk: its tables; what is done to names. -/
namespace Go.Proofs.YtldkeelgnfegeaaGreat
open Go Go.RowKit Go.By

/-- One block more. -/
def Own.add (own : Own) (k : Nat) (r : Role) : Own := fun j => if j = k then some r else own j
theorem Own.add_self (own : Own) (k : Nat) (r : Role) : own.add k r k = some r := if_pos rfl
theorem Own.add_old {own : Own} {k : Nat} {r r' : Role} {j n : Nat} (here : ∀ k r, own k = some r → k < n) (hk : n ≤ k) (h : own j = some r') : own.add k r j = some r' := by
  have := here j r' h
  unfold Own.add; rw [if_neg (by omega)]; exact h
theorem Own.add_lt {own : Own} {k : Nat} {r : Role} {j : Nat} (h : j < k) : own.add k r j = own j := by unfold Own.add; rw [if_neg (by omega)]
theorem Own.add_some {own : Own} {k : Nat} {r r' : Role} {j : Nat} (h : own.add k r j = some r') : (j = k ∧ r' = r) ∨ own j = some r' := by
  unfold Own.add at h
  split at h
  · rename_i e; cases h; exact .inl ⟨e, rfl⟩
  · exact .inr h

/-- A row of one's own that may have moved to a new block. -/
theorem own_moved {own : Own} {w w' : World} (here : ∀ k r, own k = some r → k < w.heap.size) {v v' : Value} {r : Role} (hr : r ≠ .disk) (hv : ∀ k, v.ownBlock = some k → own k = some r)
    (hat : v'.ownBlock = v.ownBlock ∨ v'.ownBlock = some w.heap.size) (hs : w.heap.size ≤ w'.heap.size) (hlt : ∀ k, v'.ownBlock = some k → k < w'.heap.size) :
    ∃ own' : Own, (∀ k, k < w.heap.size → own' k = own k) ∧ (∀ k r', own k = some r' → own' k = some r') ∧ (∀ k, v'.ownBlock = some k → own' k = some r) ∧ (∀ k r', own' k = some r' → k < w'.heap.size) ∧ (∀ k, own' k = some .disk → own k = some .disk) := by
  rcases hat with h | h
  · exact ⟨own, fun _ _ => rfl, fun _ _ h => h, fun k hk => hv k (h ▸ hk), fun k r' hk => Nat.lt_of_lt_of_le (here k r' hk) hs, fun _ h => h⟩
  · refine ⟨own.add w.heap.size r, fun k hk => Own.add_lt hk, fun k r' hk => Own.add_old here (Nat.le_refl _) hk, fun k hk => ?_, fun k r' hk => ?_, fun k hk => ?_⟩
    · rw [h] at hk; cases hk; exact Own.add_self _ _ _
    · rcases Own.add_some hk with ⟨rfl, _⟩ | h'
      · exact hlt _ h
      · exact Nat.lt_of_lt_of_le (here k r' h') hs
    · rcases Own.add_some hk with ⟨_, h'⟩ | h'
      · exact absurd h'.symm hr
      · exact h'

/-- The disk with its tables at hand. -/
structure Tabled (w : World) (own : Own) (a bs bf : Nat) (D : DiskA) : Prop where
  disk : DiskIs w own a D
  out : ∃ mk lv, w.heap[a]? = some (.cells (diskCells D (.map (some bs)) mk lv (.map (some bf))) 56 (0, 0)) ∧ Parts w own (.map (some bs)) mk (.map (some bf)) lv D ∧ mk ≠ .map none

theorem tables_made {own : Own} {a : Nat} {D : DiskA} {w : World} (h : DiskIs w own a D) {ms lv mf : Value} (h1 : w.heap[a]? = some (.cells (diskCells D ms (.map none) lv mf) 56 (0, 0))) (h2 : Parts w own ms (.map none) mf lv D) (hk : D.kept = [])
    {w1 w2 w3 : World} (e1 : w1 = w.alloc (.map #[] 0)) (e2 : w2 = w1.alloc (.map #[] 0)) (e3 : w3 = w2.alloc (.map #[] 0)) :
    ∃ own' bs bf, Tabled (((w3.setCell ⟨a, 4, none⟩ (.map (some w.heap.size))).setCell ⟨a, 5, none⟩ (.map (some w1.heap.size))).setCell ⟨a, 8, none⟩ (.map (some w2.heap.size))) own' a bs bf D ∧
      Steps own own' w (((w3.setCell ⟨a, 4, none⟩ (.map (some w.heap.size))).setCell ⟨a, 5, none⟩ (.map (some w1.heap.size))).setCell ⟨a, 8, none⟩ (.map (some w2.heap.size))) := by
  have hlt : a < w.heap.size := h.here a _ h.role
  have z1 : w1.heap.size = w.heap.size + 1 := by rw [e1]; simp
  have z2 : w2.heap.size = w.heap.size + 2 := by rw [e2]; simp [z1]
  have z3 : w3.heap.size = w.heap.size + 3 := by rw [e3]; simp [z2]
  have hb : Below w.heap.size w w3 := by
    rw [e3, e2, e1]; exact (((Below.refl _ _).alloc (Nat.le_refl _) _).alloc (by simp) _).alloc (by simp; omega) _
  have i1 : Mp.Is w3 w.heap.size strV natV ([] : List (ByteArray × Nat)) := by
    have := Mp.Is.made w strV natV
    rw [← e1] at this
    refine this.of_heap ?_
    rw [e3, Below.heap_alloc w2 _ _ (by omega), e2, Below.heap_alloc w1 _ _ (by omega)]
  have i2 : Mp.Is w3 w1.heap.size strV natV ([] : List (ByteArray × Nat)) := by
    have := Mp.Is.made w1 strV natV
    rw [← e2] at this
    refine this.of_heap ?_
    rw [e3, Below.heap_alloc w2 _ _ (by omega)]
  have i3 : Mp.Is w3 w2.heap.size natV ptrV ([] : List (Nat × Nat)) := by
    have := Mp.Is.made w2 natV ptrV
    rw [← e3] at this
    exact this
  have h3 : w3.heap[a]? = some (.cells (diskCells D ms (.map none) lv mf) 56 (0, 0)) := (hb.block a hlt).trans h1
  have s1 := set_heap h3 4 (.map (some w.heap.size))
  have s2 := set_heap s1.1 5 (.map (some w1.heap.size))
  have s3 := set_heap s2.1 8 (.map (some w2.heap.size))
  generalize hW1 : w3.setCell ⟨a, 4, none⟩ (.map (some w.heap.size)) = W1 at *
  generalize hW2 : W1.setCell ⟨a, 5, none⟩ (.map (some w1.heap.size)) = W2 at *
  generalize hW : W2.setCell ⟨a, 8, none⟩ (.map (some w2.heap.size)) = W at *
  have zW : W.heap.size = w3.heap.size := by rw [← hW, ← hW2, ← hW1]; simp
  have osW : W.os = w3.os ∧ W.tape = w3.tape ∧ W.output = w3.output := by rw [← hW, ← hW2, ← hW1]; exact ⟨rfl, rfl, rfl⟩
  have hoth : ∀ k, k ≠ a → W.heap[k]? = w3.heap[k]? := fun k hk => ((s3.2 k hk).trans (s2.2 k hk)).trans (s1.2 k hk)
  have hold : ∀ k, k < w.heap.size → k ≠ a → W.heap[k]? = w.heap[k]? := fun k hk hne => (hoth k hne).trans (hb.block k hk)
  let o1 := own.add w.heap.size .seen
  let o2 := o1.add w1.heap.size .kept
  let o3 := o2.add w2.heap.size .files
  have r0 : ∀ k r, own k = some r → o3 k = some r := fun k r hk => by
    have := h.here k r hk
    show (o2.add _ _) k = _
    rw [Own.add_lt (by omega)]
    show (o1.add _ _) k = _
    rw [Own.add_lt (by omega)]
    show (own.add _ _) k = _
    rw [Own.add_lt this]; exact hk
  have rs : o3 w.heap.size = some .seen := by
    show (o2.add _ _) _ = _
    rw [Own.add_lt (by omega)]
    show (o1.add _ _) _ = _
    rw [Own.add_lt (by omega)]
    exact Own.add_self _ _ _
  have rk : o3 w1.heap.size = some .kept := by
    show (o2.add _ _) _ = _
    rw [Own.add_lt (by omega)]
    exact Own.add_self _ _ _
  have rf : o3 w2.heap.size = some .files := Own.add_self _ _ _
  have inv : ∀ k r, o3 k = some r → own k = some r ∨ (w.heap.size ≤ k ∧ k < w3.heap.size ∧ r ≠ .disk) := fun k r hk => by
    rcases Own.add_some hk with ⟨rfl, rfl⟩ | hk
    · exact .inr ⟨by omega, by omega, by decide⟩
    rcases Own.add_some hk with ⟨rfl, rfl⟩ | hk
    · exact .inr ⟨by omega, by omega, by decide⟩
    rcases Own.add_some hk with ⟨rfl, rfl⟩ | hk
    · exact .inr ⟨by omega, by omega, by decide⟩
    exact .inl hk
  have stay : Stay own o3 (· ≠ .disk) w W := ⟨r0, fun k r hk hr => hold k (h.here k r hk) (by
    rintro rfl
    rw [h.role] at hk; cases hk; exact hr rfl)⟩
  have hbare := h2.bare rfl
  have parts : Parts W o3 (.map (some w.heap.size)) (.map (some w1.heap.size)) (.map (some w2.heap.size)) lv D := by
    refine ⟨.inr ⟨_, rfl, rs, ?_⟩, .inr ⟨_, rfl, rk, ?_⟩, ownsRow_of_heap h2.laid fun k hk => stay.block k _ (h2.laidR k hk) (by decide), fun k hk => r0 k _ (h2.laidR k hk), .inr ⟨_, rfl, rf, ?_⟩, ?_, fun hn => (by cases hn), fun _ => ⟨by simp, by simp⟩, h2.bareL⟩
    · rw [hbare.1]; exact i1.of_heap (hoth _ (by omega))
    · rw [hk]; exact i2.of_heap (hoth _ (by omega))
    · rw [hbare.2.1]; exact i3.of_heap (hoth _ (by omega))
    · intro n fb hn; rw [hbare.2.1] at hn; cases hn
  have hcell : W.heap[a]? = some (.cells (diskCells D (.map (some w.heap.size)) (.map (some w1.heap.size)) lv (.map (some w2.heap.size))) 56 (0, 0)) := s3.1
  refine ⟨o3, w.heap.size, w2.heap.size, ⟨⟨⟨_, _, _, _, hcell, parts⟩, r0 a _ h.role, fun k hk => ?_, fun k r hk => ?_⟩, ⟨_, _, hcell, parts, by simp⟩⟩, ⟨osW.1.trans hb.os, osW.2.1.trans hb.tape, osW.2.2.trans hb.output, by omega, fun k hk hn => hold k hk ?_, fun k hk => ?_⟩⟩
  · rcases inv k _ hk with h' | ⟨_, _, h'⟩
    · exact h.only k h'
    · exact absurd rfl h'
  · rcases inv k _ hk with h' | ⟨_, h', _⟩
    · have := h.here k r h'; omega
    · omega
  · rintro rfl
    rw [h.role] at hn; simp at hn
  · show (o2.add _ _) k = _
    rw [Own.add_lt (by omega)]
    show (o1.add _ _) k = _
    rw [Own.add_lt (by omega)]
    exact Own.add_lt hk

set_option maxRecDepth 100000 in
theorem makeTables_any (own : Own) (a : Nat) (D : DiskA) (w : World) (h : DiskIs w own a D) :
    Calls Tryz.prog 44 #[.pointer (some ⟨a, 0, none⟩)] w fun e w' => e = .returned (.tuple #[]) ∧ ∃ own' bs bf, Tabled w' own' a bs bf D ∧ Steps own own' w w' := by
  obtain ⟨ms, mk, mf, lv, h1, h2⟩ := h.out
  have g5 : w.cell? ⟨a, 5, none⟩ = some mk := cells_of h1 5
  rcases h2.kept with ⟨rfl, hk0⟩ | ⟨bk, rfl, _⟩
  · have g4 : w.cell? ⟨a, 4, none⟩ = some ms := cells_of h1 4
    have g8 : w.cell? ⟨a, 8, none⟩ = some mf := cells_of h1 8
    have f4 := free_of h1 4
    have f5 := free_of h1 5
    have f8 := free_of h1 8
    have hlt : a < w.heap.size := h.here a _ h.role
    have hne : w.heap.size ≠ a := by omega
    have H := Lib.hid h
    have H1 := Lib.hid h1
    have H2 := Lib.hid h2
    have HK := Lib.hid hk0
    clear h h1 h2 hk0
    have hne' := fun (w : World) (r : Option Nat) => Go.run_eql_map_nil (P := Tryz.prog) w 51 9 3 r namesT
    obtain ⟨w1, hw1⟩ : ∃ w1, w1 = w.alloc (.map #[] 0) := ⟨_, rfl⟩
    obtain ⟨w2, hw2⟩ : ∃ w2, w2 = w1.alloc (.map #[] 0) := ⟨_, rfl⟩
    obtain ⟨w3, hw3⟩ : ∃ w3, w3 = w2.alloc (.map #[] 0) := ⟨_, rfl⟩
    have m1 : (Instr.makeMap 51 none).run Tryz.prog w = .ok (.map (some w.heap.size)) w1 := by rw [hw1]; exact run_makeMap _ w
    have m2 : (Instr.makeMap 51 none).run Tryz.prog w1 = .ok (.map (some w1.heap.size)) w2 := by rw [hw2]; exact run_makeMap _ w1
    have m3 : (Instr.makeMap 54 none).run Tryz.prog w2 = .ok (.map (some w2.heap.size)) w3 := by rw [hw3]; exact run_makeMap _ w2
    have hb : Below w.heap.size w w3 := by
      rw [hw3, hw2, hw1]; exact (((Below.refl _ _).alloc (Nat.le_refl _) _).alloc (by simp) _).alloc (by simp; omega) _
    have c4 : w3.cell? ⟨a, 4, none⟩ = some ms := (hb.cell (p := ⟨a, 4, none⟩) hlt).trans g4
    have c5 : w3.cell? ⟨a, 5, none⟩ = some (.map none) := (hb.cell (p := ⟨a, 5, none⟩) hlt).trans g5
    have c8 : w3.cell? ⟨a, 8, none⟩ = some mf := (hb.cell (p := ⟨a, 8, none⟩) hlt).trans g8
    have d4 : w3.frozen? ⟨a, 4, none⟩ = false := (hb.frozen (p := ⟨a, 4, none⟩) hlt).trans f4
    have d5 : w3.frozen? ⟨a, 5, none⟩ = false := (hb.frozen (p := ⟨a, 5, none⟩) hlt).trans f5
    have d8 : w3.frozen? ⟨a, 8, none⟩ = false := (hb.frozen (p := ⟨a, 8, none⟩) hlt).trans f8
    have HW1 := Lib.hid hw1; have HW2 := Lib.hid hw2; have HW3 := Lib.hid hw3; have HBL := Lib.hid hb
    clear hw1 hw2 hw3 hb g4 g8 f4 f5 f8 hne
    go_enter Tryz.func44, Tryz.ntmps44
    go_wp2
    go_returns
    exact ⟨rfl, tables_made H.out H1.out H2.out HK.out HW1.out HW2.out HW3.out⟩
  · obtain ⟨n1, n2⟩ := h2.full (by simp)
    have e1 : ∃ bs, ms = .map (some bs) := by
      rcases h2.seen with ⟨h, _⟩ | ⟨b, h, _⟩
      · exact absurd h n1
      · exact ⟨b, h⟩
    have e2 : ∃ bf, mf = .map (some bf) := by
      rcases h2.files with ⟨h, _⟩ | ⟨b, h, _⟩
      · exact absurd h n2
      · exact ⟨b, h⟩
    obtain ⟨bs, rfl⟩ := e1
    obtain ⟨bf, rfl⟩ := e2
    have fin : Tabled w own a bs bf D := ⟨h, _, _, h1, h2, by simp⟩
    have FIN := Lib.hid fin
    clear fin h h1 h2 n1 n2
    have hne := fun (w : World) (r : Option Nat) => Go.run_eql_map_nil (P := Tryz.prog) w 51 9 3 r namesT
    go_enter Tryz.func44, Tryz.ntmps44
    go_wp2
    go_returns
    exact ⟨rfl, own, bs, bf, FIN.out, Steps.refl _ _⟩
end Go.Proofs.YtldkeelgnfegeaaGreat

/- The disk: a name is laid; Create. -/
namespace Go.Proofs.YtldkeelgnfegeaaGreat
open Go Go.RowKit Go.By

theorem set_grown {w : World} {b : Nat} {o o' : Obj} (h : w.heap[b]? = some o) : w.grownBy { w with heap := w.heap.setIfInBounds b o' } (some b) :=
  ⟨rfl, rfl, rfl, by simp, fun k _ hk => (MapKept.heap_set (o' := o') h).2 k (fun e => hk (by rw [e]))⟩

/-- m[a] = v, in a world of its own. -/
theorem update_world {α β : Type} [DecidableEq α] {P : Program} {w : World} {b : Nat} {mk : α → Value} {mv : β → Value} {m : List (α × β)} {t kt et : TypeId} (h : Mp.Is w b mk mv m) (K : Mp.KeyOf P kt mk) (ht : P.underlying t = some (.map kt et)) (a : α) (v : β) :
    ∃ w', (Instr.mapUpdate t (.map (some b)) (mk a) (mv v)).run P w = .ok () w' ∧ Mp.Is w' b mk mv (Mp.put m a v) ∧ w.grownBy w' (some b) ∧ w'.heap.size = w.heap.size := by
  obtain ⟨o, h1, h2⟩ := h.update K ht a v
  obtain ⟨⟨es, clock, h3, _⟩, _⟩ := h
  exact ⟨_, h1, h2, set_grown h3, by simp⟩

set_option maxRecDepth 100000 in
theorem redoCreate_any (s : ByteArray) (n b : Nat) (m : List (ByteArray × Nat)) (w : World) (hm : Mp.Is w b strV natV m) :
    Calls Tryz.prog 46 #[.agg #[.string s, .int .i64 n], .map (some b)] w fun e w' => e = .returned (.tuple #[]) ∧ Mp.Is w' b strV natV (Mp.put m s n) ∧ w.grownBy w' (some b) := by
  have hlt := hm.lt
  have hm1 : Mp.Is (w.alloc (.cells #[.string s, .int .i64 n] 97)) b strV natV m := hm.of_heap (Below.heap_alloc _ _ _ hlt)
  obtain ⟨w2, hrun, hm2, hg, _⟩ := update_world hm1 strK namesT s n
  have fin : Mp.Is w2 b strV natV (Mp.put m s n) ∧ w.grownBy w2 (some b) := ⟨hm2, ⟨hg.os, hg.tape, hg.output, Nat.le_trans (by simp) hg.size, fun k hk hn => (hg.block k (by simp; omega) hn).trans (Below.heap_alloc _ _ _ hk)⟩⟩
  have FIN := Lib.hid fin
  unfold strV natV at hrun
  clear hm hm1 hm2 hg fin hlt
  go_enter Tryz.func46, Tryz.ntmps46
  go_wp2
  go_returns
  exact ⟨rfl, FIN.out⟩

theorem nameOpInfo : (Tryz.prog.info? 109).map (fun i => (i.zero, i.size, i.bytes)) = some (some .nilFunc, 1, 8) := by kernel_rfl
theorem nameOps : Tryz.prog.underlying 52 = some (.slice 109) := by kernel_rfl

theorem laid_done {own : Own} {a bs bf : Nat} {D : DiskA} {w w1 w2 : World} {mk lv v2 : Value} {m' : List (ByteArray × Nat)} {op : NameOp} {o : Obj} (hd : DiskIs w own a D)
    (h1 : w.heap[a]? = some (.cells (diskCells D (.map (some bs)) mk lv (.map (some bf))) 56 (0, 0))) (h2 : Parts w own (.map (some bs)) mk (.map (some bf)) lv D) (h3 : mk ≠ .map none) (hr : own bs = some .seen)
    (hm : Mp.Is w1 bs strV natV m') (hg1 : w.grownBy w1 (some bs)) (hown : w2.ownsRow 0 109 1 v2 (D.laid.length + 1) (D.laid.map nameV ++ [nameV op])) (hg2 : (w1.alloc o).grownBy w2 lv.ownBlock)
    (hat : v2.ownBlock = lv.ownBlock ∨ v2.ownBlock = some (w1.alloc o).heap.size) :
    ∃ own', Tabled (w2.setCell ⟨a, 6, none⟩ v2) own' a bs bf { D with seen := m', laid := D.laid ++ [op] } ∧ Steps own own' w (w2.setCell ⟨a, 6, none⟩ v2) := by
  have hlt : a < w.heap.size := hd.here a _ hd.role
  have hbs : bs < w.heap.size := hd.here bs _ hr
  have hsa : bs ≠ a := by rintro rfl; rw [hd.role] at hr; cases hr
  have hla : lv.ownBlock ≠ some a := fun hh => by have := h2.laidR a hh; rw [hd.role] at this; cases this
  have hls : lv.ownBlock ≠ some bs := fun hh => by have := h2.laidR bs hh; rw [hr] at this; cases this
  have z1 := hg1.size
  have zA : (w1.alloc o).heap.size = w1.heap.size + 1 := by simp
  have z2 := hg2.size
  have old : ∀ k, k < w.heap.size → k ≠ bs → lv.ownBlock ≠ some k → w2.heap[k]? = w.heap[k]? := fun k hk h1 h2 =>
    ((hg2.block k (by omega) (fun e => h2 e.symm)).trans (Below.heap_alloc _ _ _ (by omega))).trans (hg1.block k hk (fun e => h1 (Option.some.inj e)))
  have ha2 : w2.heap[a]? = some (.cells (diskCells D (.map (some bs)) mk lv (.map (some bf))) 56 (0, 0)) := (old a hlt hsa.symm hla).trans h1
  have s6 := set_heap ha2 6 v2
  have hv2 : ∀ k, v2.ownBlock = some k → k < w2.heap.size := fun k hk => (hown.lt k hk).2
  obtain ⟨own', p1, p2, p3, p4, p5⟩ := own_moved (own := own) (w := w1.alloc o) (w' := w2) (fun k r hk => by have := hd.here k r hk; omega) (v := lv) (v' := v2) (r := .laid) (by decide) h2.laidR hat z2 hv2
  have hva : v2.ownBlock ≠ some a := fun hh => by
    have h6 := p3 a hh
    rw [p2 a _ hd.role] at h6; cases h6
  have hvs : v2.ownBlock ≠ some bs := fun hh => by
    have h6 := p3 bs hh
    rw [p2 bs _ hr] at h6; cases h6
  generalize hW : w2.setCell ⟨a, 6, none⟩ v2 = W at *
  have zW : W.heap.size = w2.heap.size := by rw [← hW]; simp
  have osW : W.os = w2.os ∧ W.tape = w2.tape ∧ W.output = w2.output := by rw [← hW]; exact ⟨rfl, rfl, rfl⟩
  have hW2 : ∀ k, k < w.heap.size → k ≠ a → k ≠ bs → lv.ownBlock ≠ some k → W.heap[k]? = w.heap[k]? := fun k hk q1 q2 q3 => (s6.2 k q1).trans (old k hk q2 q3)
  have stay : Stay own own' (fun r => r ≠ .disk ∧ r ≠ .seen ∧ r ≠ .laid) w W := ⟨p2, fun k r hk hr' => hW2 k (hd.here k r hk) (by rintro rfl; rw [hd.role] at hk; cases hk; exact hr'.1 rfl) (by rintro rfl; rw [hr] at hk; cases hk; exact hr'.2.1 rfl)
    (fun hh => by have := h2.laidR k hh; rw [this] at hk; cases hk; exact hr'.2.2 rfl)⟩
  have hms : Mp.Is W bs strV natV m' := hm.of_heap ((s6.2 bs hsa).trans ((hg2.block bs (by omega) (fun e => hls e.symm)).trans (Below.heap_alloc _ _ _ (by omega))))
  have parts : Parts W own' (.map (some bs)) mk (.map (some bf)) v2 { D with seen := m', laid := D.laid ++ [op] } := by
    refine ⟨.inr ⟨bs, rfl, p2 bs _ hr, hms⟩, h2.kept.stay stay (by decide), ?_, p3, h2.files.stay stay (by decide), fun n fb hn => (h2.each n fb hn).stay stay (by simp) (by simp) (by simp) (by simp) (by simp), fun hn => absurd hn h3, fun _ => ⟨by simp, by simp⟩, fun h0 => absurd h0 (by simp)⟩
    have := ownsRow_of_heap hown (w' := W) fun k hk => s6.2 k (fun e => hva (by rw [hk, e]))
    simpa using this
  have hcell : W.heap[a]? = some (.cells (diskCells D (.map (some bs)) mk v2 (.map (some bf))) 56 (0, 0)) := s6.1
  refine ⟨own', ⟨⟨⟨_, _, _, _, hcell, parts⟩, p2 a _ hd.role, fun k hk => hd.only k (p5 k hk), fun k r hk => by rw [zW]; exact p4 k r hk⟩, ⟨_, _, hcell, parts, h3⟩⟩, ⟨osW.1.trans (hg2.os.trans hg1.os), osW.2.1.trans (hg2.tape.trans hg1.tape), osW.2.2.trans (hg2.output.trans hg1.output), by omega, fun k hk hn => hW2 k hk ?_ ?_ ?_, fun k hk => p1 k (by omega)⟩⟩
  · rintro rfl; rw [hd.role] at hn; simp at hn
  · rintro rfl; rw [hr] at hn; simp at hn
  · intro hh; rw [h2.laidR k hh] at hn; simp at hn

set_option maxRecDepth 100000 in
theorem alterCreate_any (own : Own) (a bs bf : Nat) (D : DiskA) (s : ByteArray) (n : Nat) (w : World) (h : Tabled w own a bs bf D) (hl : D.laid.length < 1000000) :
    Calls Tryz.prog 45 #[.pointer (some ⟨a, 0, none⟩), nameV (.create s n)] w fun e w' => e = .returned (.tuple #[]) ∧ ∃ own', Tabled w' own' a bs bf { D with seen := Mp.put D.seen s n, laid := D.laid ++ [.create s n] } ∧ Steps own own' w w' := by
  obtain ⟨hd, mk, lv, h1, h2, h3⟩ := h
  have g4 : w.cell? ⟨a, 4, none⟩ = some (.map (some bs)) := cells_of h1 4
  have hrs : own bs = some .seen ∧ Mp.Is w bs strV natV D.seen := by
    rcases h2.seen with ⟨h, _⟩ | ⟨b, h, hb, hm⟩
    · cases h
    · cases h; exact ⟨hb, hm⟩
  have hlt : a < w.heap.size := hd.here a _ hd.role
  have hne : bs ≠ a := by
    rintro rfl
    rw [hd.role] at hrs; cases hrs.1
  have HD := Lib.hid hd; have H1 := Lib.hid h1; have H2 := Lib.hid h2; have HR := Lib.hid hrs
  clear hd h1 h2 hrs
  obtain ⟨i0, hi, hz0, hz1, hz2⟩ := info_parts nameOpInfo
  have HI := Lib.hid hi; have Z0 := Lib.hid hz0; have Z1 := Lib.hid hz1; have Z2 := Lib.hid hz2
  clear hi hz0 hz1 hz2
  unfold nameV
  go_enter Tryz.func45, Tryz.ntmps45
  go_wp2_with fail
  refine (redoCreate_any s n bs D.seen w HR.out.2).mono ?_
  rintro e w1 ⟨rfl, hm1, hg1⟩
  have q6 : w1.cell? ⟨a, 6, none⟩ = some lv := by
    rw [World.cell?_of_block (hg1.block a hlt (by simpa using fun h => hne h.symm))]; exact cells_of H1.out 6
  have HM1 := Lib.hid hm1; have HG1 := Lib.hid hg1
  have hlb : ∀ k, lv.ownBlock = some k → k < w.heap.size ∧ k ≠ bs ∧ k ≠ a := fun k hk => ⟨HD.out.here k _ (H2.out.laidR k hk), (by
    rintro rfl; have := H2.out.laidR k hk; rw [HR.out.1] at this; cases this), (by
    rintro rfl; have := H2.out.laidR k hk; rw [HD.out.role] at this; cases this)⟩
  have ho1 := ownsRow_of_heap H2.out.laid (w' := w1) fun k hk => hg1.block k (hlb k hk).1 (by simpa using (hlb k hk).2.1)
  have HO1 := Lib.hid ho1
  have HLB := Lib.hid hlb
  clear hm1 hg1 g4 ho1 hlb
  go_wp2_with (at_builtin; refine wpList_append_own_at _ rfl (.tmp 14) (.tmp 16) 52 rfl 0 109 i0 .nilFunc 1 8 nameOps HI.out Z0.out Z1.out Z2.out rfl (by decide) lv D.laid.length (D.laid.map nameV) rfl (HO1.out.alloc _) ⟨w1.heap.size, 0, none⟩ 1 1 [nameV (.create s n)] rfl rfl ?c1 ?c2 ?c3 ?c4 ?c5 ?c6)
  case c1 =>
    intro j u hu
    match j with
    | 0 => simp at hu; subst hu; exact World.cell?_alloc_new w1 _ _ 0
    | j + 1 => simp at hu
  case c2 => intro u hu; simp at hu; subst hu; rfl
  case c3 => unfold maxLen; omega
  case c4 => omega
  case c5 => omega
  intro v2 w2 hown hgrow _ hat
  obtain ⟨p2, c2, rfl⟩ : ∃ p c, v2 = .slice p (D.laid.length + 1) c := by
    rcases hown.2 with ⟨_, h⟩ | ⟨g, c, _, h, _⟩
    · omega
    · exact ⟨_, c, h⟩
  have z1 := HG1.out.size
  have q6' : w2.cell? ⟨a, 6, none⟩ = some lv := by
    rw [World.cell?_of_block (hgrow.block a (by simp; omega) (fun e => (HLB.out a e.symm).2.2 rfl)), World.cell?_alloc_lt _ _ _ (by simp; omega)]; exact q6
  have f6' : w2.frozen? ⟨a, 6, none⟩ = false := by
    rw [World.frozen?_of_block (hgrow.block a (by simp; omega) (fun e => (HLB.out a e.symm).2.2 rfl)), World.frozen?_alloc_old _ _ _ (by simp; omega), World.frozen?_of_block (HG1.out.block a hlt (by simpa using fun h => hne h.symm))]
    exact free_of H1.out 6
  have fin := laid_done HD.out H1.out H2.out h3 HR.out.1 HM1.out HG1.out hown hgrow (by simpa using hat)
  have FIN := Lib.hid fin
  clear fin hown hgrow hat q6
  go_wp2
  go_returns
  exact ⟨rfl, FIN.out⟩
end Go.Proofs.YtldkeelgnfegeaaGreat

/- The disk: Create. -/
namespace Go.Proofs.YtldkeelgnfegeaaGreat
open Go Go.RowKit Go.By

theorem Tabled.setMade {w : World} {own : Own} {a bs bf : Nat} {D : DiskA} (h : Tabled w own a bs bf D) (n : Nat) :
    Tabled (w.setCell ⟨a, 7, none⟩ (.int .i64 n)) own a bs bf { D with made := n } ∧ Steps own own w (w.setCell ⟨a, 7, none⟩ (.int .i64 n)) := by
  obtain ⟨hd, mk, lv, h1, h2, h3⟩ := h
  have s := hd.setMade n
  have s7 := set_heap h1 7 (.int .i64 n)
  refine ⟨⟨s.1, mk, lv, s7.1, ?_, h3⟩, s.2⟩
  exact parts_numbers (h2.stay ⟨fun _ _ h => h, fun k r hk hr => s7.2 k (by rintro rfl; rw [hd.role] at hk; cases hk; exact hr rfl)⟩) rfl rfl rfl rfl rfl

def DiskA.newFile (D : DiskA) (n fb : Nat) : DiskA := { D with fm := Mp.put D.fm n fb, cont := fun k => if k = n then ⟨[], [], []⟩ else D.cont k }

/-- A file of no bytes is laid into the table. -/
theorem file_made {own : Own} {a bs bf : Nat} {D : DiskA} {w : World} (h : Tabled w own a bs bf D) (n : Nat) (hn : Mp.get D.fm n = none) :
    ∃ w', (Instr.mapUpdate 54 (.map (some bf)) (.int .i64 n) (.pointer (some ⟨w.heap.size, 0, none⟩))).run Tryz.prog ((w.alloc (.cells #[.slice none 0 0, .slice none 0 0, .slice none 0 0] 75)).drew) = .ok () w' ∧
      ∃ own', Tabled w' own' a bs bf (D.newFile n w.heap.size) ∧ Steps own own' w w' := by
  obtain ⟨hd, mk, lv, h1, h2, h3⟩ := h
  have hrf : own bf = some .files ∧ Mp.Is w bf natV ptrV D.fm := by
    rcases h2.files with ⟨h, _⟩ | ⟨b, h, hb, hm⟩
    · cases h
    · cases h; exact ⟨hb, hm⟩
  have hbf : bf < w.heap.size := hd.here bf _ hrf.1
  have hlt : a < w.heap.size := hd.here a _ hd.role
  have hfa : bf ≠ a := by rintro rfl; have := hrf.1; rw [hd.role] at this; cases this
  obtain ⟨wa, hwa⟩ : ∃ wa, wa = (w.alloc (.cells #[.slice none 0 0, .slice none 0 0, .slice none 0 0] 75)).drew := ⟨_, rfl⟩
  rw [← hwa]
  have hba : Below w.heap.size w wa := by rw [hwa]; exact ((Below.refl _ _).alloc (Nat.le_refl _) _).drew
  have za : wa.heap.size = w.heap.size + 1 := by rw [hwa]; simp
  have hfb : wa.heap[w.heap.size]? = some (.cells #[.slice none 0 0, .slice none 0 0, .slice none 0 0] 75 (0, 0)) := by rw [hwa]; exact heap_alloc_new w _
  have hma : Mp.Is wa bf natV ptrV D.fm := hrf.2.of_heap (hba.block bf hbf)
  obtain ⟨w', hrun, hm', hg, hz⟩ := update_world hma natK filesT n w.heap.size
  refine ⟨w', hrun, own.add w.heap.size (.file n), ?_⟩
  have oth : ∀ k, k < wa.heap.size → k ≠ bf → w'.heap[k]? = wa.heap[k]? := fun k hk hne => hg.block k hk (fun e => hne (Option.some.inj e))
  have old : ∀ k, k < w.heap.size → k ≠ bf → w'.heap[k]? = w.heap[k]? := fun k hk hne => (oth k (by omega) hne).trans (hba.block k hk)
  have stay : Stay own (own.add w.heap.size (.file n)) (fun r => r ≠ .files) w w' := ⟨fun k r hk => Own.add_old hd.here (Nat.le_refl _) hk, fun k r hk hr => old k (hd.here k r hk) (by rintro rfl; rw [hrf.1] at hk; cases hk; exact hr rfl)⟩
  have hcell : w'.heap[a]? = some (.cells (diskCells D (.map (some bs)) mk lv (.map (some bf))) 56 (0, 0)) := (old a hlt hfa.symm).trans h1
  have hnew : FileIs w' (own.add w.heap.size (.file n)) n w.heap.size ⟨[], [], []⟩ :=
    ⟨⟨.slice none 0 0, .slice none 0 0, .slice none 0 0, [], (oth _ (by omega) (by omega)).trans hfb, RowV.nil _ _ _, RowV.nil _ _ _, World.ownsRow_nil _ _ _ _, fun k hk => (by cases hk), rfl⟩, Own.add_self _ _ _, fun _ hl _ => third_cell ((oth _ (by omega) (by omega)).trans hfb) rfl hl⟩
  have parts : Parts w' (own.add w.heap.size (.file n)) (.map (some bs)) mk (.map (some bf)) lv (D.newFile n w.heap.size) := by
    refine ⟨h2.seen.stay stay (by decide), h2.kept.stay stay (by decide), ownsRow_of_heap h2.laid fun k hk => stay.block k _ (h2.laidR k hk) (by decide), fun k hk => stay.role k _ (h2.laidR k hk), .inr ⟨bf, rfl, stay.role bf _ hrf.1, hm'⟩, fun k fb hk => ?_, fun hk => absurd hk h3, fun _ => ⟨by simp, by simp⟩, h2.bareL⟩
    have hk' : Mp.get (Mp.put D.fm n w.heap.size) k = some fb := hk
    rw [Mp.get_put] at hk'
    show FileIs _ _ k fb (if k = n then _ else D.cont k)
    by_cases he : n = k
    · subst he
      rw [if_pos rfl] at hk' ⊢
      cases hk'
      exact hnew
    · rw [if_neg he] at hk'
      rw [if_neg (fun e => he e.symm)]
      exact (h2.each k fb hk').stay stay (by simp) (by simp) (by simp) (by simp) (by simp)
  refine ⟨⟨⟨⟨_, _, _, _, hcell, parts⟩, stay.role a _ hd.role, fun k hk => ?_, fun k r hk => ?_⟩, ⟨_, _, hcell, parts, h3⟩⟩, ⟨hg.os.trans hba.os, hg.tape.trans hba.tape, hg.output.trans hba.output, by omega, fun k hk hn => old k hk ?_, fun k hk => Own.add_lt hk⟩⟩
  · rcases Own.add_some hk with ⟨_, h'⟩ | h'
    · cases h'
    · exact hd.only k h'
  · rcases Own.add_some hk with ⟨h', _⟩ | h'
    · omega
    · have := hd.here k r h'; omega
  · rintro rfl; rw [hrf.1] at hn; simp at hn

def DiskA.create (D : DiskA) (s : ByteArray) (fb : Nat) : DiskA :=
  { (({ D with made := D.made + 1 } : DiskA).newFile (D.made + 1) fb) with seen := Mp.put D.seen s (D.made + 1), laid := D.laid ++ [.create s (D.made + 1)] }

/-- What Create tells. -/
def Created (own : Own) (a : Nat) (D : DiskA) (s : ByteArray) (w : World) (e : Ending) (w' : World) : Prop :=
  ∃ own', Steps own own' w w' ∧ (
    ((D.begin (mayName s)).2 ≠ 0 ∧ e = .returned (.int .i64 (D.begin (mayName s)).2) ∧ DiskIs w' own' a (D.begin (mayName s)).1) ∨
    ((D.begin (mayName s)).2 = 0 ∧ (Mp.get D.seen s).isSome = true ∧ e = .returned (.int .i64 8) ∧ DiskIs w' own' a (D.begin (mayName s)).1) ∨
    ((D.begin (mayName s)).2 = 0 ∧ Mp.get D.seen s = none ∧ e = .returned (.int .i64 0) ∧ ∃ fb, DiskIs w' own' a ((D.begin (mayName s)).1.create s fb)))

set_option maxRecDepth 100000 in
set_option maxHeartbeats 1600000 in
theorem create_any (own : Own) (a : Nat) (D : DiskA) (s : ByteArray) (w : World) (h : DiskIs w own a D) (hk : D.Ok) (ho : D.ops < 4611686018427387904) (hl : D.left < 4611686018427387904) (hs : s.size ≤ maxLen) (hll : D.laid.length < 1000000) (hmd : D.made < 1000000) :
    Calls Tryz.prog 21 #[.pointer (some ⟨a, 0, none⟩), .string s] w (Created own a D s w) := by
  have HB := Lib.hid (begin_any own a D (mayName s) w h ho hl)
  have hsame : (D.begin (mayName s)).1.seen = D.seen ∧ (D.begin (mayName s)).1.fm = D.fm ∧ (D.begin (mayName s)).1.made = D.made ∧ (D.begin (mayName s)).1.laid = D.laid := by
    unfold DiskA.begin; split <;> exact ⟨rfl, rfl, rfl, rfl⟩
  have HK := Lib.hid hk
  have hfin : ∀ e w', Created own a D s w e w' = Created own a D s w e w' := fun _ _ => rfl
  obtain ⟨D1, hD1⟩ : ∃ D1, D1 = (D.begin (mayName s)).1 := ⟨_, rfl⟩
  obtain ⟨err, herr⟩ : ∃ err, err = (D.begin (mayName s)).2 := ⟨_, rfl⟩
  rw [← hD1, ← herr] at HB
  rw [← hD1] at hsame
  have HD1 := Lib.hid hD1; have HE := Lib.hid herr; have HS := Lib.hid hsame
  clear hfin hD1 herr hsame h hk ho hl
  go_enter Tryz.func21, Tryz.ntmps21
  go_wp2_with (go_at_call 43; refine (mayName_any s _ hs).mono ?_; rintro e w1 ⟨rfl, rfl⟩)
  refine HB.out.mono ?_
  rintro e w1 ⟨rfl, hd, hst⟩
  obtain ⟨ms, mk, mf, lv, h1, h2⟩ := hd.out
  have l1 := (h2.seen.look strK namesT (zeroInt w1) s).1
  have g4 : w1.cell? ⟨a, 4, none⟩ = some ms := cells_of h1 4
  have H2 := Lib.hid h2
  have HD := Lib.hid hd
  have HST := Lib.hid hst
  clear h1 h2 hd hst HB
  unfold strV at l1
  by_cases he : err = 0
  · subst he
    cases hg : Mp.get D1.seen s with
    | some n =>
      rw [hg] at l1
      simp only [Option.map_some, Option.getD_some, Option.isSome_some, natV] at l1
      have HG := Lib.hid hg; clear hg
      go_wp2
      go_ret
      exact ⟨own, HST.out, .inr (.inl ⟨HE.out.symm, by rw [← HS.out.1, HG.out]; rfl, rfl, HD1.out ▸ HD.out⟩)⟩
    | none =>
      rw [hg] at l1
      simp only [Option.map_none, Option.getD_none, Option.isSome_none] at l1
      have HG := Lib.hid hg; clear hg
      go_wp2_with fail
      refine (makeTables_any own a D1 w1 HD.out).mono ?_
      rintro e w2 ⟨rfl, own2, bs, bf, ht, hst2⟩
      have HT := Lib.hid ht; have HST2 := Lib.hid hst2
      obtain ⟨n1, hn1⟩ : ∃ n1, n1 = D1.made + 1 := ⟨_, rfl⟩
      have hm0 := ht.setMade n1
      have hnone : Mp.get D1.fm n1 = none := by
        cases hh : Mp.get D1.fm n1 with
        | none => rfl
        | some x =>
          have := HK.out.made n1 (by rw [← HS.out.2.1, hh]; rfl)
          rw [← HS.out.2.2.1] at this; omega
      have hfm := file_made hm0.1 n1 hnone
      have HM0 := Lib.hid hm0
      obtain ⟨w4, hrun, own4, ht4, hst4⟩ := hfm
      have HT4 := Lib.hid ht4; have HST4 := Lib.hid hst4
      obtain ⟨hd2, mk2, lv2, q1, q2, q3⟩ := ht
      have g7 : w2.cell? ⟨a, 7, none⟩ = some (.int .i64 D1.made) := cells_of q1 7
      have g8 : w2.cell? ⟨a, 8, none⟩ = some (.map (some bf)) := cells_of q1 8
      have f7 := free_of q1 7
      have hmd1 : (D1.made : Int) < 1000000 := by rw [HS.out.2.2.1]; omega
      have ca : ((D1.made : Int) + 1) = (n1 : Int) := by omega
      have HN1 := Lib.hid hn1; clear hn1
      clear hm0 ht4 hst4 hst2 hd2 q1 q2 q3 hnone l1 g4
      go_wp2
      obtain ⟨hd3, mk3, lv3, t1, t2, t3⟩ := HM0.out.1
      obtain ⟨hd4, mk4, lv4, u1, u2, u3⟩ := HT4.out
      have k7 := cells_of t1 7
      have k8 := cells_of t1 8
      have j7 : w4.cell? ⟨a, 7, none⟩ = some (.int .i64 n1) := cells_of u1 7
      have k7' : (w2.setCell ⟨a, 7, none⟩ (.int .i64 n1)).cell? ⟨a, 7, none⟩ = some (.int .i64 n1) := k7
      have k8' : (w2.setCell ⟨a, 7, none⟩ (.int .i64 n1)).cell? ⟨a, 8, none⟩ = some (.map (some bf)) := k8
      clear hd3 t1 t2 t3 hd4 u1 u2 u3 k7 k8 g7 g8 f7 ca hmd1
      generalize w2.setCell ⟨a, 7, none⟩ (.int .i64 n1) = w3 at *
      have ha3 : a < w3.heap.size := HM0.out.1.disk.here a _ HM0.out.1.disk.role
      go_region
      all_goals
        go_wp2_with fail
        refine (alterCreate_any own4 a bs bf _ s n1 w4 HT4.out (by show D1.laid.length < _; rw [HS.out.2.2.2]; exact hll)).mono ?_
        rintro e w5 ⟨rfl, own5, ht5, hst5⟩
        have HT5 := Lib.hid ht5; have HST5 := Lib.hid hst5
        clear ht5 hst5
        go_wp2
        go_ret
        refine ⟨own5, HST.out.trans (HST2.out.trans (HM0.out.2.trans (HST4.out.trans HST5.out))), .inr (.inr ⟨HE.out.symm, by rw [← HS.out.1]; exact HG.out, rfl, w3.heap.size, ?_⟩)⟩
        have e1 := HT5.out.disk
        rw [← HD1.out]
        have e2 := HN1.out
        subst e2
        exact e1
  · go_wp2
    go_ret
    exact ⟨own, HST.out, .inl ⟨by rw [← HE.out]; exact he, by rw [← HE.out]; rfl, HD1.out ▸ HD.out⟩⟩
end Go.Proofs.YtldkeelgnfegeaaGreat

/- The disk: a file's bytes: fit, put. -/
namespace Go.Proofs.YtldkeelgnfegeaaGreat
open Go Go.RowKit Go.By

theorem bytesT : ByT Tryz.prog 23 5 := ⟨by kernel_rfl, by kernel_rfl, by kernel_rfl⟩

theorem run_zeros_op {P : Program} {w : World} {ops : Array Oper} {rest : List Oper} {o : Oper} {a : Act} {Q : Exit → Act → World → Prop} (hgd : o.guard = none) (s x : Operand) {t e ti : TypeId} (T : ByT P t e) {k : IntKind} (hti : P.underlying ti = some (.int k))
    (ho : o.op = .call { callee := .builtin .append, args := #[s, x], argTypes := #[t, ti] }) (v : Value) (l : List Nat) (hs : a.eval s = v) (hown : w.ownsRow 0 e 1 v l.length (cellsOf l)) (n : Nat) (hx : a.eval x = .int .i64 n) (hb : l.length + n ≤ 140737488355328)
    (h : ∀ v' w', RowStep w w' e v v' (l ++ List.replicate n 0) → wpList P ops Q rest (a.put o.dst v') w') : wpList P ops Q (o :: rest) a w := by
  refine wpList_plain hgd fun K hK => ?_
  obtain ⟨v', w', hr, h1, h2, h3⟩ := run_append_zeros (ty := o.type) T hti 0 v l hown n hb (Nat.zero_le _)
  unfold Oper.wp execOp
  simp only [ho, resolve, invoke, builtin, Sem.run_bind, Sem.run_pure, Result.andThen_ok, List.map_toArray, List.map_cons, List.map_nil, hs, hx, hr]
  refine hK _ _ (h v' w' ⟨?_, h2, ?_⟩)
  · simpa using h1
  · rcases h3 with h3 | h3
    · exact .inl h3
    · exact .inr ⟨_, h3, Nat.le_refl _⟩

set_option maxRecDepth 100000 in
theorem fit_any (v : Value) (l : List Nat) (n : Nat) (w : World) (hv : w.ownsRow 0 5 1 v l.length (cellsOf l)) (hn : n ≤ 16777216 + 16777216) :
    Calls Tryz.prog 68 #[v, .int .i64 n] w fun e w' => ∃ v', e = .returned v' ∧ RowStep w w' 5 v v' (fitL l n) := by
  obtain ⟨p, cap, rfl, hcap⟩ : ∃ p cap, v = .slice p l.length cap ∧ l.length ≤ cap := by
    rcases hv.2 with ⟨h, h2⟩ | ⟨g, cap, _, h, _, _, h2, _⟩
    · exact ⟨none, 0, by rw [h, h2], by omega⟩
    · exact ⟨_, cap, h, h2⟩
  have hm : l.length ≤ 9223372036854775807 := by
    rcases hv.2 with ⟨_, h2⟩ | ⟨g, cap, _, h, _, _, h2, h3, _⟩
    · omega
    · unfold maxLen at h3; omega
  by_cases h : n ≤ l.length
  · have fin : RowStep w w 5 (.slice p l.length cap) (.slice p n cap) (fitL l n) := by
      rw [fitL_less h]
      refine ⟨by have := owns_less hv h; simpa [List.length_take, Nat.min_eq_left h] using this, World.grownBy.refl _ _, .inl (by cases p <;> rfl)⟩
    have FIN := Lib.hid fin
    have hc1 : (n : Int) ≤ cap := by omega
    have hi1 : (n : Int) ≤ l.length := by omega
    clear fin hv hn
    go_enter Tryz.func68, Tryz.ntmps68
    go_wp2
    go_ret
    exact ⟨_, rfl, FIN.out⟩
  · obtain ⟨d, hd⟩ : ∃ d, n = l.length + d := ⟨n - l.length, by omega⟩
    have hi1 : ¬ (n : Int) ≤ l.length := by omega
    have hdi : (n : Int) - l.length = (d : Int) := by omega
    have HF : Hid (fitL l n = l ++ List.replicate d 0) := by
      unfold Hid; rw [fitL_more (by omega)]; congr 2; omega
    have HV := Lib.hid hv
    have HD := Lib.hid hd
    clear hv hd
    go_enter Tryz.func68, Tryz.ntmps68
    go_wp2_with (at_builtin; refine run_zeros_op rfl (.tmp 12) (.tmp 16) (ti := 3) bytesT (k := .i64) (by kernel_rfl) rfl (.slice p l.length cap) l rfl HV.out d rfl (by have := HD.out; omega) ?_; intro v' w' hst)
    have HST := Lib.hid hst; clear hst
    go_wp2
    go_ret
    exact ⟨_, rfl, by rw [HF.out]; exact HST.out⟩

set_option maxRecDepth 100000 in
theorem put_any (v pv : Value) (l p : List Nat) (off : Nat) (w : World) (hv : w.ownsRow 0 5 1 v l.length (cellsOf l)) (hp : Bytes w pv p) (hd : ∀ k, pv.ownBlock = some k → v.ownBlock ≠ some k) (hpos : 0 < p.length) (hn : off + p.length ≤ 16777216 + 16777216) :
    Calls Tryz.prog 91 #[v, .int .i64 off, pv] w fun e w' => ∃ v', e = .returned v' ∧ RowStep w w' 5 v v' (putL l off p) := by
  have HV := Lib.hid hv; have HP := Lib.hid hp; have HD := Lib.hid hd
  obtain ⟨q, cap, rfl, hcap⟩ : ∃ p cap, v = .slice p l.length cap ∧ l.length ≤ cap := by
    rcases hv.2 with ⟨h, h2⟩ | ⟨g, cap, _, h, _, _, h2, _⟩
    · exact ⟨none, 0, by rw [h, h2], by omega⟩
    · exact ⟨_, cap, h, h2⟩
  have hm : l.length ≤ 9223372036854775807 := by
    rcases hv.2 with ⟨_, h2⟩ | ⟨g, cap, _, h, _, _, h2, h3, _⟩
    · omega
    · unfold maxLen at h3; omega
  obtain ⟨pb, po, pc, rfl, hpc⟩ : ∃ pb po pc, pv = .slice (some ⟨pb, po, none⟩) p.length pc ∧ ∀ i, i < p.length → w.cell? ⟨pb, po + i, none⟩ = some (.int .u8 (atB p i : Nat)) := by
    rcases hp.out with ⟨_, h⟩ | ⟨_, _, h⟩ | ⟨b, o, c, h, _, hc⟩
    · subst h; simp at hpos
    · subst h; simp at hpos
    · exact ⟨b, o, c, h, hc⟩
  have HPC := Lib.hid hpc
  have hpb : pb < w.heap.size := block_lt_of_cell (hpc 0 hpos)
  have hsz1 : (Tryz.prog.info? 5).map (·.size) = some 1 := by kernel_rfl
  have HSZ := Lib.hid hsz1
  have hend : (off : Int) + p.length ≤ 16777216 + 16777216 := by omega
  clear hv hp hd hpc hsz1
  -- behind the first step
  have rest : ∀ (v1 : Value) (l1 : List Nat) (w1 : World), RowStep w w1 5 (.slice q l.length cap) v1 l1 → off + p.length ≤ l1.length →
      ∃ g cap1 cur, v1 = .slice (some ⟨g, 0, none⟩) l1.length cap1 ∧ w1.heap[g]? = some (.cells cur 5 (0, 0)) ∧ l1.length ≤ cap1 ∧ cap1 ≤ maxLen ∧ cur.size = cap1 * 1 ∧ cur.toList.take (l1.length * 1) = cellsOf l1 ∧
        (∀ j u, (cellsOf p)[j]? = some u → w1.cell? ((⟨pb, po, none⟩ : Addr).add j) = some u) := by
    intro v1 l1 w1 hs hl
    rcases hs.owns.2 with ⟨_, h⟩ | ⟨g, cap1, cur, h1, _, h2, h3, h4, h5, h6⟩
    · omega
    · refine ⟨g, cap1, cur, h1, h2, h3, h4, h5, h6, fun j u hu => ?_⟩
      obtain ⟨hj, rfl⟩ := cellsOf_at hu
      rw [Addr.add_lit, World.cell?_of_block (hs.grown.block pb hpb (fun e => HD.out pb rfl e.symm))]
      exact HPC.out j hj
  have REST := Lib.hid rest
  clear rest hpb
  by_cases h : l.length < off + p.length
  · have HL : Hid (putL l off p = overL (fitL l (off + p.length)) off p) := by unfold Hid putL; rw [if_pos h]
    have hi : (l.length : Int) < (off : Int) + p.length := by omega
    have hfit := fit_any (.slice q l.length cap) l (off + p.length) w HV.out (by omega)
    have hca : ((off + p.length : Nat) : Int) = (off : Int) + p.length := by omega
    rw [hca] at hfit
    have HFIT := Lib.hid hfit
    clear hfit hca h
    go_enter Tryz.func91, Tryz.ntmps91
    go_wp2_with fail
    refine HFIT.out.mono ?_
    rintro e w1 ⟨v1, rfl, hs⟩
    obtain ⟨g, cap1, cur, rfl, h2, h3, h4, h5, h6, h7⟩ := REST.out v1 _ w1 hs (by rw [fitL_length]; omega)
    have hfl := fitL_length l (off + p.length)
    have hst := over_step (off := off) (p := p) h2 h3 h4 h5 h6 (by rw [hfl]; omega)
    have hall := hs.trans hst
    have HALL := Lib.hid hall
    have i1 : (off : Int) ≤ (fitL l (off + p.length)).length := by rw [hfl]; omega
    have i2 : ¬ cap1 = off := by omega
    have i3 : (off : Int) ≤ cap1 := by omega
    have H2 := Lib.hid h2; have H5 := Lib.hid h5; have H7 := Lib.hid h7; have HFL := Lib.hid hfl
    unfold maxLen at h4
    clear hs hst hall h2 h5 h6 h7
    generalize fitL l (off + p.length) = l1 at *
    clear hfl
    go_wp2_with (with_reducible refine wpList_copy_own rfl (.tmp 21) (.tmp 22) 23 23 rfl 5 bytesT.slice HSZ.out g off (l1.length - off) (cap1 - off) ⟨pb, po, none⟩ p.length pc ?hd ?hs cur 5 H2.out (cellsOf p) ?hn H7.out ?hf (cellsOf_one _) ?hk)
    case hd => rfl
    case hs => rfl
    case hn => rw [cellsOf_length, HFL.out]; simp
    case hf => rw [cellsOf_length, H5.out]; have := HFL.out; omega
    go_wp2
    go_ret
    exact ⟨_, rfl, by rw [HL.out]; exact HALL.out⟩
  · have HL : Hid (putL l off p = overL l off p) := by unfold Hid putL; rw [if_neg h]
    have hi : ¬ (l.length : Int) < (off : Int) + p.length := by omega
    have hlo : off + p.length ≤ l.length := by omega
    obtain ⟨g, cap1, cur, hveq, h2, h3, h4, h5, h6, h7⟩ := REST.out _ l w (RowStep.refl HV.out) hlo
    simp only [Value.slice.injEq, true_and] at hveq
    obtain ⟨rfl, rfl⟩ := hveq
    have hst := over_step (off := off) (p := p) h2 h3 h4 h5 h6 hlo
    have HALL := Lib.hid hst
    have i1 : (off : Int) ≤ l.length := by omega
    have i2 : ¬ cap = off := by omega
    have i3 : (off : Int) ≤ cap := by omega
    have H2 := Lib.hid h2; have H5 := Lib.hid h5; have H7 := Lib.hid h7; have HLO := Lib.hid hlo; have H3 := Lib.hid h3
    clear hst h2 h5 h6 h7 h4 h
    go_enter Tryz.func91, Tryz.ntmps91
    go_wp2_with (with_reducible refine wpList_copy_own rfl (.tmp 21) (.tmp 22) 23 23 rfl 5 bytesT.slice HSZ.out g off (l.length - off) (cap - off) ⟨pb, po, none⟩ p.length pc ?hd2 ?hs2 cur 5 H2.out (cellsOf p) ?hn2 H7.out ?hf2 (cellsOf_one _) ?hk2)
    try (case hd2 => rfl)
    try (case hs2 => rfl)
    case hn2 => rw [cellsOf_length]; have := HLO.out; show p.length = min p.length _; omega
    case hf2 => rw [cellsOf_length, H5.out]; have := HLO.out; have := H3.out; omega
    go_wp2
    go_ret
    exact ⟨_, rfl, by rw [HL.out]; exact HALL.out⟩
end Go.Proofs.YtldkeelgnfegeaaGreat

/- The disk: what was laid by is done again, piece by piece. -/
namespace Go.Proofs.YtldkeelgnfegeaaGreat
open Go Go.RowKit Go.By

/-- Only blocks of this set, and new ones, are turned. -/
structure Turned (S : Nat → Prop) (w w' : World) : Prop where
  os : w'.os = w.os
  tape : w'.tape = w.tape
  output : w'.output = w.output
  size : w.heap.size ≤ w'.heap.size
  block : ∀ k, k < w.heap.size → ¬ S k → w'.heap[k]? = w.heap[k]?
theorem Turned.refl (S : Nat → Prop) (w : World) : Turned S w w := ⟨rfl, rfl, rfl, Nat.le_refl _, fun _ _ _ => rfl⟩
theorem Turned.trans {S S' : Nat → Prop} {w w1 w2 : World} (h : Turned S w w1) (k : Turned S' w1 w2) (hS : ∀ j, S' j → S j ∨ w.heap.size ≤ j) : Turned S w w2 :=
  ⟨k.os.trans h.os, k.tape.trans h.tape, k.output.trans h.output, Nat.le_trans h.size k.size, fun j hj hn => (k.block j (Nat.lt_of_lt_of_le hj h.size) (fun hs => by
    rcases hS j hs with h' | h'
    · exact hn h'
    · omega)).trans (h.block j hj hn)⟩
theorem Turned.of_grown {w w' : World} {row : Option Nat} (h : w.grownBy w' row) : Turned (fun k => row = some k) w w' := ⟨h.os, h.tape, h.output, h.size, fun k hk hn => h.block k hk (fun e => hn e.symm)⟩
theorem Turned.weaken {S S' : Nat → Prop} {w w' : World} (h : Turned S w w') (hS : ∀ k, S k → S' k) : Turned S' w w' := ⟨h.os, h.tape, h.output, h.size, fun k hk hn => h.block k hk (fun hs => hn (hS k hs))⟩
theorem Turned.drew {S : Nat → Prop} {w w' : World} (h : Turned S w w') : Turned S w w'.drew := ⟨h.os, h.tape, h.output, h.size, h.block⟩
theorem Turned.alloc {S : Nat → Prop} {w w' : World} (h : Turned S w w') (o : Obj) : Turned S w (w'.alloc o) :=
  ⟨h.os, h.tape, h.output, Nat.le_trans h.size (by simp), fun k hk hn => (Below.heap_alloc w' o k (Nat.lt_of_lt_of_le hk h.size)).trans (h.block k hk hn)⟩

/-- More often it is not asked. -/
def drawLim : Nat := 1152921504606846976

/-- What tells, one piece after the other, whether it lasts. It hangs on the blocks of S alone, and turns lb alone. -/
structure Lasts (fid : FuncId) (first : Array Value) (S : Nat → Prop) (lb : Option Nat) (I : Nat → World → Prop) (bit : Nat → Bool) : Prop where
  call : ∀ i w, I i w → i < drawLim → Calls Tryz.prog fid first w fun e w' => e = .returned (.bool (bit i)) ∧ I (i + 1) w' ∧ w.grownBy w' lb
  stay : ∀ i w w', I i w → (∀ k, S k → w'.heap[k]? = w.heap[k]?) → I i w'
  here : ∀ i w k, I i w → S k → k < w.heap.size
  own : ∀ k, lb = some k → S k
  enter : ∀ args w, (callFunc fid args).run Tryz.prog w = .ok (.enter fid args) w

theorem always_lasts : Lasts 57 #[] (fun _ => False) none (fun _ _ => True) (fun _ => true) where
  call := by
    intro i w _ _
    go_enter Tryz.func57, Tryz.ntmps57
    go_wp2
    go_ret
    exact ⟨rfl, trivial, World.grownBy.refl _ _⟩
  stay := fun _ _ _ _ _ => trivial
  here := fun _ _ _ _ h => h.elim
  own := fun _ h => by cases h
  enter := by intro args w; kernel_rfl

/-- How many bytes the next piece has. -/
def pieceLen (off n at_ : Nat) : Nat := min (128 - (off + at_) % 128) (n - at_)
/-- A write, done again from a place on: the row, and how many pieces were asked for. -/
def redoWrite (off : Nat) (b : List Nat) (bit : Nat → Bool) : Nat → Nat → Nat → List Nat → List Nat × Nat
  | 0, _, i, l => (l, i)
  | fuel + 1, at_, i, l =>
    if at_ < b.length then redoWrite off b bit fuel (at_ + pieceLen off b.length at_) (i + 1) (if bit i then putL l (off + at_) ((b.drop at_).take (pieceLen off b.length at_)) else l)
    else (l, i)

/-- The row behind some rounds. -/
structure RowTo (S : Nat → Prop) (lb : Option Nat) (w w' : World) (v v' : Value) (l : List Nat) : Prop where
  owns : w'.ownsRow 0 5 1 v' l.length (cellsOf l)
  turned : Turned (fun k => v.ownBlock = some k ∨ lb = some k) w w'
  moved : v'.ownBlock = v.ownBlock ∨ ∃ k, v'.ownBlock = some k ∧ w.heap.size ≤ k

end Go.Proofs.YtldkeelgnfegeaaGreat

/- The disk: a write, done again. -/
namespace Go.Proofs.YtldkeelgnfegeaaGreat
open Go Go.RowKit Go.By

theorem pieceLen_pos {off n at_ : Nat} (h : at_ < n) : 0 < pieceLen off n at_ := by unfold pieceLen; omega
theorem pieceLen_le (off n at_ : Nat) : pieceLen off n at_ ≤ n - at_ := Nat.min_le_right _ _

theorem RowTo.refl {S : Nat → Prop} {lb : Option Nat} {w : World} {v : Value} {l : List Nat} (h : w.ownsRow 0 5 1 v l.length (cellsOf l)) : RowTo S lb w w v v l := ⟨h, Turned.refl _ _, .inl rfl⟩

theorem RowTo.step {S : Nat → Prop} {lb : Option Nat} {w w1 w2 : World} {v v1 v2 : Value} {l1 l2 : List Nat} (h : RowTo S lb w w1 v v1 l1) (k : RowStep w1 w2 5 v1 v2 l2) : RowTo S lb w w2 v v2 l2 where
  owns := k.owns
  turned := h.turned.trans (Turned.of_grown k.grown) (fun j hj => by
    rcases h.moved with hm | ⟨q, hm, hq⟩
    · exact .inl (.inl (by rw [← hm]; exact hj))
    · rw [hm] at hj; cases hj; exact .inr hq)
  moved := by
    rcases k.moved with hm | ⟨q, hm, hq⟩
    · rw [hm]; exact h.moved
    · exact .inr ⟨q, hm, Nat.le_trans h.turned.size hq⟩
theorem RowTo.asked {S : Nat → Prop} {lb : Option Nat} {w w1 w2 : World} {v v1 : Value} {l1 : List Nat} (h : RowTo S lb w w1 v v1 l1) (k : w1.grownBy w2 lb) (hn : ∀ j, v1.ownBlock = some j → lb ≠ some j) : RowTo S lb w w2 v v1 l1 where
  owns := ownsRow_of_heap h.owns fun j hj => k.block j (by
    rcases h.owns.2 with ⟨hv, _⟩ | ⟨g, cap, cur, hv, _, hg, _⟩
    · rw [hv] at hj; cases hj
    · rw [hv] at hj; cases hj; exact (Array.getElem?_eq_some_iff.1 hg).1) (fun e => hn j hj e.symm)
  turned := h.turned.trans (Turned.of_grown k) (fun j hj => .inl (.inr hj))
  moved := h.moved
theorem RowTo.lead {S : Nat → Prop} {lb : Option Nat} {w w1 w2 : World} {v v1 : Value} {l1 : List Nat} (h : Below w.heap.size w w1) (k : RowTo S lb w1 w2 v v1 l1) : RowTo S lb w w2 v v1 l1 where
  owns := k.owns
  turned := ⟨k.turned.os.trans h.os, k.turned.tape.trans h.tape, k.turned.output.trans h.output, Nat.le_trans h.size k.turned.size, fun j hj hn => (k.turned.block j (Nat.lt_of_lt_of_le hj h.size) hn).trans (h.block j hj)⟩
  moved := by
    rcases k.moved with hm | ⟨q, hm, hq⟩
    · exact .inl hm
    · exact .inr ⟨q, hm, Nat.le_trans h.size hq⟩
/-- Where its row is, behind some rounds. -/
theorem RowTo.apart {S : Nat → Prop} {lb : Option Nat} {w w1 : World} {v v1 : Value} {l1 : List Nat} (h : RowTo S lb w w1 v v1 l1) (hS : ∀ k, v.ownBlock = some k → ¬ S k) (hl : ∀ k, S k → k < w.heap.size) {j : Nat} (hj : v1.ownBlock = some j) : ¬ S j := by
  rcases h.moved with hm | ⟨q, hm, hq⟩
  · rw [hm] at hj; exact hS j hj
  · rw [hm] at hj; cases hj; intro hs; have := hl _ hs; omega
theorem RowTo.keeps {S : Nat → Prop} {lb : Option Nat} {w w1 : World} {v v1 : Value} {l1 : List Nat} (h : RowTo S lb w w1 v v1 l1) {k : Nat} (hk : k < w.heap.size) (h1 : v.ownBlock ≠ some k) (h2 : lb ≠ some k) : w1.heap[k]? = w.heap[k]? :=
  h.turned.block k hk (fun h => h.elim h1 h2)

theorem Bytes.sub {w : World} {pb po pc n : Nat} {l : List Nat} (hc : ∀ i, i < l.length → w.cell? ⟨pb, po + i, none⟩ = some (.int .u8 (atB l i : Nat))) (hs : ∀ c ∈ l, c < 256) (hm : l.length ≤ maxLen) (lo : Nat) (hn : lo + n ≤ l.length) (hp : l.length ≤ pc) :
    Bytes w (.slice (some ⟨pb, po + lo, none⟩) n (pc - lo)) ((l.drop lo).take n) where
  out := by
    have hlen : ((l.drop lo).take n).length = n := by simp; omega
    refine .inr (.inr ⟨pb, po + lo, pc - lo, by rw [hlen], by rw [hlen]; omega, fun i hi => ?_⟩)
    rw [hlen] at hi
    have := hc (lo + i) (by omega)
    rw [Nat.add_assoc, this]
    congr 3
    unfold atB
    simp [List.getD, List.getElem?_take, hi]
  small := fun c hc => hs c (List.mem_of_mem_drop (List.mem_of_mem_take hc))
  short := by simp; omega

set_option maxRecDepth 100000 in
set_option maxHeartbeats 400000 in
theorem redoWrite_any {fid : FuncId} {first : Array Value} {S : Nat → Prop} {lb : Option Nat} {I : Nat → World → Prop} {bit : Nat → Bool} (L : Lasts fid first S lb I bit)
    (v bv : Value) (l b : List Nat) (off i0 : Nat) (w : World) (hI : I i0 w) (hv : w.ownsRow 0 5 1 v l.length (cellsOf l)) (hb : Bytes w bv b)
    (hd : ∀ k, bv.ownBlock = some k → v.ownBlock ≠ some k ∧ ¬ S k) (hS : ∀ k, v.ownBlock = some k → ¬ S k) (hpos : 0 < b.length) (hoff : off ≤ 16777216) (hlen : b.length ≤ 1048576) (hi0 : i0 + b.length ≤ drawLim) :
    Calls Tryz.prog 70 #[.agg #[.int .i64 off, bv], v, .func (.func fid) first #[]] w fun e w' => ∃ v', e = .returned v' ∧
      I (redoWrite off b bit b.length 0 i0 l).2 w' ∧ RowTo S lb w w' v v' (redoWrite off b bit b.length 0 i0 l).1 := by
  obtain ⟨pb, po, pc, rfl, hpcl, hpc⟩ : ∃ pb po pc, bv = .slice (some ⟨pb, po, none⟩) b.length pc ∧ b.length ≤ pc ∧ ∀ i, i < b.length → w.cell? ⟨pb, po + i, none⟩ = some (.int .u8 (atB b i : Nat)) := by
    rcases hb.out with ⟨_, h⟩ | ⟨_, _, h⟩ | ⟨b, o, c, h, hcl, hc⟩
    · subst h; simp at hpos
    · subst h; simp at hpos
    · exact ⟨b, o, c, h, hcl, hc⟩
  have HI0 := Lib.hid hi0; clear hi0
  have HI := Lib.hid hI; have HV := Lib.hid hv; have HB := Lib.hid hb; have HD := Lib.hid hd; have HS := Lib.hid hS; have HPC := Lib.hid hpc
  have HBS := Lib.hid hb.small; have HPL := Lib.hid hpcl
  have hw1 : ∀ o, RowTo S lb (w.alloc o) (w.alloc o) v v l := fun o => RowTo.refl (ownsRow_of_heap hv fun k hk => Below.heap_alloc w o k (by
    rcases hv.2 with ⟨h, _⟩ | ⟨g, cap, cur, h, _, hg, _⟩
    · rw [h] at hk; cases hk
    · rw [h] at hk; cases hk; exact (Array.getElem?_eq_some_iff.1 hg).1))
  have HW1 := Lib.hid hw1
  clear hI hv hb hd hS hpc hw1 hpcl
  go_enter Tryz.func70, Tryz.ntmps70
  go_wp2
  obtain ⟨W, hW⟩ : ∃ W, W = w.alloc (Obj.cells #[Value.int IntKind.i64 ↑off, Value.slice (some { block := pb, off := po }) b.length pc] 125) := ⟨_, rfl⟩
  rw [← hW]
  have hWs : W.heap.size = w.heap.size + 1 := by rw [hW]; simp
  have hWb : Below w.heap.size w W := by rw [hW]; exact Below.alloc (Below.refl _ _) (Nat.le_refl _) _
  have hW0 : W.heap[w.heap.size]? = some (.cells #[Value.int IntKind.i64 ↑off, Value.slice (some { block := pb, off := po }) b.length pc] 125 (0, 0)) := by rw [hW]; exact heap_alloc_new w _
  have hRT : RowTo S lb W W v v l := by rw [hW]; exact HW1.out _
  have hIW : I i0 W := L.stay i0 w W HI.out fun k hk => hWb.block k (L.here i0 w k HI.out hk)
  have hvlt : ∀ k, v.ownBlock = some k → k < w.heap.size := fun k hk => by
    rcases HV.out.2 with ⟨h, _⟩ | ⟨g, cap, cur, h, _, hg, _⟩
    · rw [h] at hk; cases hk
    · rw [h] at hk; cases hk; exact (Array.getElem?_eq_some_iff.1 hg).1
  have hpb : pb < w.heap.size := block_lt_of_cell (HPC.out 0 hpos)
  -- what stays behind some rounds
  have keep : ∀ wr v1 l1, RowTo S lb W wr v v1 l1 → wr.heap[w.heap.size]? = W.heap[w.heap.size]? ∧ wr.heap[pb]? = w.heap[pb]? := fun wr v1 l1 h => by
    refine ⟨h.keeps (by omega) (fun e => ?_) (fun e => ?_), (h.keeps (by omega) (HD.out pb rfl).1 (fun e => (HD.out pb rfl).2 (L.own pb e))).trans (hWb.block pb hpb)⟩
    · have := hvlt _ e; omega
    · have := L.here i0 w _ HI.out (L.own _ e); omega
  have HWs := Lib.hid hWs; have HWb := Lib.hid hWb; have HW0 := Lib.hid hW0; have HRT := Lib.hid hRT; have HIW := Lib.hid hIW; have HVL := Lib.hid hvlt; have HPB := Lib.hid hpb; have KEEP := Lib.hid keep
  clear hW hWs hWb hW0 hRT hIW hvlt hpb keep
  go_loopw [1, 7] (fun v1 x wr => ∃ (k i f : Nat) (l1 : List Nat), x = .int .i64 k ∧ k ≤ b.length ∧ b.length ≤ k + f ∧ i ≤ i0 + k ∧ I i wr ∧ RowTo S lb W wr v v1 l1 ∧ redoWrite off b bit f k i l1 = redoWrite off b bit b.length 0 i0 l) (fun _ x _ => b.length - (intOf x).toNat)
  case atStart => exact ⟨0, i0, b.length, l, rfl, by omega, by omega, by omega, HIW.out, HRT.out, rfl⟩
  case round =>
    obtain ⟨k, i, f, l1, rfl, hk, hf, hik, hIr, hrt, heq⟩ := hrel
    obtain ⟨hk1, hk2⟩ := KEEP.out wr u1 l1 hrt
    have c0 : wr.cell? ⟨w.heap.size, 0, none⟩ = some (.int .i64 off) := (World.cell?_of_block hk1).trans (cells_of HW0.out 0)
    have c1 : wr.cell? ⟨w.heap.size, 1, none⟩ = some (.slice (some { block := pb, off := po }) b.length pc) := (World.cell?_of_block hk1).trans (cells_of HW0.out 1)
    have hIr' := Lib.hid hIr; have HR := Lib.hid hrt; have HE := Lib.hid heq; have HK2 := Lib.hid hk2
    clear hIr hrt heq hk1 hk2 HRT HIW HV HB
    by_cases hlt : k < b.length
    · obtain ⟨f, rfl⟩ : ∃ g, f = g + 1 := ⟨f - 1, by omega⟩
      have hki : (k : Int) < b.length := by omega
      have hm1 : Int.tmod ((off : Int) + k) 128 = (((off + k) % 128 : Nat) : Int) := by
        rw [Int.tmod_eq_emod_of_nonneg (by omega)]; omega
      have hm2 : (off + k) % 128 < 128 := Nat.mod_lt _ (by decide)
      obtain ⟨n, hn⟩ : ∃ n, n = pieceLen off b.length k := ⟨_, rfl⟩
      have hn1 : 0 < n := hn ▸ pieceLen_pos hlt
      have hn2 : n ≤ b.length - k := hn ▸ pieceLen_le _ _ _
      have hmin : ((128 : Int) - ((off + k) % 128 : Nat) = n ∧ (n : Int) ≤ (b.length : Int) - k) ∨ ((b.length : Int) - k = n ∧ ¬ (128 : Int) - ((off + k) % 128 : Nat) ≤ n) := by
        unfold pieceLen at hn; omega
      generalize (off + k) % 128 = md at *
      have HN := Lib.hid hn
      clear hn
      have stp : RowTo S lb W wr v u1 l1 := HR.out
      -- behind a round
      have next : ∀ l2 : List Nat, l2 = (if bit i then putL l1 (off + k) ((b.drop k).take n) else l1) → redoWrite off b bit f (k + n) (i + 1) l2 = redoWrite off b bit b.length 0 i0 l := by
        rintro l2 rfl
        rw [← HE.out]
        conv => rhs; unfold redoWrite
        rw [if_pos hlt, ← HN.out]
      have NEXT := Lib.hid next
      clear stp next
      have call := L.call i wr hIr'.out (by have := HI0.out; omega)
      have HIK := Lib.hid hik
      clear hik
      have CALL := Lib.hid call; clear call
      have hpl := HPL.out
      have b1 : (k : Int) + n ≤ pc := by omega
      have b2 : ¬ pc = k := by omega
      have b3 : ((k : Int) + n).toNat = k + n := by omega
      have b4 : k + n - k = n := by omega
      clear hpl
      rcases hmin with ⟨e1, e2⟩ | ⟨e1, e2⟩
      all_goals
        go_wp2
        rw [L.enter]
        refine CALL.out.mono ?_
        rintro e w2 ⟨rfl, hI2, hg2⟩
        have hS2 := fun j hj => HR.out.apart (j := j) HS.out (fun q hq => by have := L.here i0 w q HI.out hq; have := HWs.out; omega) hj
        have hr2 := HR.out.asked hg2 (fun j hj e => hS2 j hj (L.own _ e))
        obtain ⟨hq1, hq2⟩ := KEEP.out w2 u1 l1 hr2
        have d1 : w2.cell? ⟨w.heap.size, 1, none⟩ = some (.slice (some { block := pb, off := po }) b.length pc) := (World.cell?_of_block hq1).trans (cells_of HW0.out 1)
        have HI2 := Lib.hid hI2; have HR2 := Lib.hid hr2; have HS2 := Lib.hid hS2; have HQ2 := Lib.hid hq2
        clear hI2 hg2 hr2 hS2 hq1 hq2
        cases hbit : bit i
        · have HBIT := Lib.hid hbit
          clear hbit
          go_wp2
          go_roundw
          case rel => exact ⟨k + n, i + 1, f, l1, by go_num, by omega, by omega, by have := HIK.out; omega, HI2.out, HR2.out, NEXT.out l1 (by rw [HBIT.out]; rfl)⟩
          case measure => simp [intOf]; omega
        · have HBIT := Lib.hid hbit
          clear hbit
          have hbp := Bytes.sub (w := w2) (fun i hi => (World.cell?_of_block HQ2.out).trans (HPC.out i hi)) HBS.out (by unfold maxLen; omega) k (n := n) (by omega) HPL.out
          have hput := put_any u1 _ l1 ((b.drop k).take n) (off + k) w2 HR2.out.owns hbp (fun q hq hu => by
            simp only [Value.ownBlock, Option.some.injEq] at hq
            subst hq
            rcases HR2.out.moved with hm | ⟨q', hm, hq'⟩
            · rw [hm] at hu; exact (HD.out pb rfl).1 hu
            · rw [hm] at hu; cases hu; have := HPB.out; have := HWs.out; omega) (by simp; omega) (by simp; omega)
          have hca : ((off + k : Nat) : Int) = (off : Int) + k := by omega
          rw [hca] at hput
          have HPUT := Lib.hid hput
          clear hbp hput hca
          go_wp2_with fail
          refine HPUT.out.mono ?_
          rintro e w3 ⟨v2, rfl, hs⟩
          have hI3 := L.stay (i + 1) w2 w3 HI2.out fun q hq => hs.grown.block q (L.here _ w2 q HI2.out hq) (fun e => HS2.out q e.symm hq)
          have hr3 := HR2.out.step hs
          have HI3 := Lib.hid hI3; have HR3 := Lib.hid hr3
          clear hI3 hr3 hs
          go_wp2
          go_roundw
          case rel => exact ⟨k + n, i + 1, f, _, by go_num, by omega, by omega, by have := HIK.out; omega, HI3.out, HR3.out, NEXT.out _ (by rw [HBIT.out]; rfl)⟩
          case measure => simp [intOf]; omega
    · obtain rfl : k = b.length := by omega
      have heq : redoWrite off b bit b.length 0 i0 l = (l1, i) := by
        rw [← HE.out]
        cases f with
        | zero => rfl
        | succ f => unfold redoWrite; rw [if_neg hlt]
      have HEQ := Lib.hid heq
      clear heq
      go_wp2
      go_ret
      exact ⟨_, rfl, by rw [HEQ.out]; exact hIr'.out, by rw [HEQ.out]; exact HR.out.lead HWb.out⟩
end Go.Proofs.YtldkeelgnfegeaaGreat

/- The disk: what was laid by, done again: truncate, and either. -/
namespace Go.Proofs.YtldkeelgnfegeaaGreat
open Go Go.RowKit Go.By

/-- An operation, done again: the row, and how many pieces were asked for. -/
def redoOp (bit : Nat → Bool) : ByteOp → Nat → List Nat → List Nat × Nat
  | .write off b, i, l => redoWrite off b bit b.length 0 i l
  | .cut n, i, l => (if bit i then fitL l n else l, i + 1)
def redoOps (bit : Nat → Bool) : List ByteOp → Nat → List Nat → List Nat × Nat
  | [], i, l => (l, i)
  | o :: os, i, l => redoOps bit os (redoOp bit o i l).2 (redoOp bit o i l).1

set_option maxRecDepth 100000 in
theorem redoCut_any {fid : FuncId} {first : Array Value} {S : Nat → Prop} {lb : Option Nat} {I : Nat → World → Prop} {bit : Nat → Bool} (L : Lasts fid first S lb I bit)
    (v : Value) (l : List Nat) (n i : Nat) (w : World) (hI : I i w) (hv : w.ownsRow 0 5 1 v l.length (cellsOf l)) (hS : ∀ k, v.ownBlock = some k → ¬ S k) (hn : n ≤ 16777216) (hi : i < drawLim) :
    Calls Tryz.prog 51 #[.agg #[.int .i64 n], v, .func (.func fid) first #[]] w fun e w' => ∃ v', e = .returned v' ∧
      I (redoOp bit (.cut n) i l).2 w' ∧ RowTo S lb w w' v v' (redoOp bit (.cut n) i l).1 := by
  have ho : redoOp bit (.cut n) i l = (if bit i then fitL l n else l, i + 1) := rfl
  have HO := Lib.hid ho; clear ho
  have hvlt : ∀ k, v.ownBlock = some k → k < w.heap.size := fun k hk => by
    rcases hv.2 with ⟨h, _⟩ | ⟨g, cap, cur, h, _, hg, _⟩
    · rw [h] at hk; cases hk
    · rw [h] at hk; cases hk; exact (Array.getElem?_eq_some_iff.1 hg).1
  obtain ⟨W, hW⟩ : ∃ W, W = w.alloc (Obj.cells #[Value.int IntKind.i64 ↑n] 105) := ⟨_, rfl⟩
  have hWs : W.heap.size = w.heap.size + 1 := by rw [hW]; simp
  have hWb : Below w.heap.size w W := by rw [hW]; exact Below.alloc (Below.refl _ _) (Nat.le_refl _) _
  have hW0 : W.heap[w.heap.size]? = some (.cells #[Value.int IntKind.i64 ↑n] 105 (0, 0)) := by rw [hW]; exact heap_alloc_new w _
  have hRT : RowTo S lb W W v v l := RowTo.refl (ownsRow_of_heap hv fun k hk => hWb.block k (hvlt k hk))
  have hIW : I i W := L.stay i w W hI fun k hk => hWb.block k (L.here i w k hI hk)
  have call := L.call i W hIW hi
  have hSl := fun k hk => L.here i w k hI hk
  have HS := Lib.hid hS; have HW := Lib.hid hW; have HWs := Lib.hid hWs; have HWb := Lib.hid hWb; have HW0 := Lib.hid hW0; have HRT := Lib.hid hRT; have HVL := Lib.hid hvlt; have CALL := Lib.hid call; have HSL := Lib.hid hSl
  clear hI hv hS hW hWs hWb hW0 hRT hIW hvlt call hSl
  go_enter Tryz.func51, Tryz.ntmps51
  go_wp2
  rw [L.enter, ← HW.out]
  refine CALL.out.mono ?_
  rintro e w2 ⟨rfl, hI2, hg2⟩
  have hr2 := HRT.out.asked hg2 (fun j hj e => HS.out j hj (L.own _ e))
  have hq1 : w2.heap[w.heap.size]? = W.heap[w.heap.size]? := hr2.keeps (by have := HWs.out; omega) (fun e => by have := HVL.out _ e; omega) (fun e => by have := HSL.out _ (L.own _ e); omega)
  have d1 : w2.cell? ⟨w.heap.size, 0, none⟩ = some (.int .i64 n) := (World.cell?_of_block hq1).trans (cells_of HW0.out 0)
  have HI2 := Lib.hid hI2; have HR2 := Lib.hid hr2
  clear hI2 hg2 hr2 hq1
  cases hbit : bit i
  · have HBIT := Lib.hid hbit; clear hbit
    go_wp2
    go_ret
    exact ⟨_, rfl, by rw [HO.out]; exact HI2.out, by rw [HO.out, HBIT.out]; exact HR2.out.lead HWb.out⟩
  · have HBIT := Lib.hid hbit; clear hbit
    have hfit := fit_any v l n w2 HR2.out.owns (by omega)
    have HFIT := Lib.hid hfit; clear hfit
    go_wp2_with fail
    refine HFIT.out.mono ?_
    rintro e w3 ⟨v2, rfl, hs⟩
    have hI3 := L.stay (i + 1) w2 w3 HI2.out fun q hq => hs.grown.block q (L.here _ w2 q HI2.out hq) (fun e => HS.out q e.symm hq)
    have hr3 := (HR2.out.step hs).lead HWb.out
    have HI3 := Lib.hid hI3; have HR3 := Lib.hid hr3
    clear hI3 hr3 hs
    go_wp2
    go_ret
    exact ⟨_, rfl, by rw [HO.out]; exact HI3.out, by rw [HO.out, HBIT.out]; exact HR3.out⟩

theorem redoWrite_at {off : Nat} {b : List Nat} {bit : Nat → Bool} : ∀ (f k i : Nat) (l : List Nat), (redoWrite off b bit f k i l).2 ≤ i + f
  | 0, _, i, _ => by simp [redoWrite]
  | f + 1, k, i, l => by
    unfold redoWrite
    split
    · refine Nat.le_trans (redoWrite_at f _ (i + 1) _) (by omega)
    · exact Nat.le_add_right _ _
theorem redoOp_at {bit : Nat → Bool} {w : World} {own : Own} {c : Value} {o : ByteOp} (ho : OpV w own c o) (i : Nat) (l : List Nat) : (redoOp bit o i l).2 ≤ i + 1048576 := by
  cases o with
  | write off b =>
    obtain ⟨_, _, _, _, _, _, hb⟩ := ho
    have := redoWrite_at (off := off) (b := b) (bit := bit) b.length 0 i l
    exact Nat.le_trans this (by omega)
  | cut n => exact Nat.add_le_add_left (by decide) i

/-- The same of whatever was laid by. -/
theorem redo_any {fid : FuncId} {first : Array Value} {S : Nat → Prop} {lb : Option Nat} {I : Nat → World → Prop} {bit : Nat → Bool} (L : Lasts fid first S lb I bit)
    (own : Own) (o : ByteOp) (c v : Value) (l : List Nat) (i : Nat) (w : World) (hI : I i w) (hv : w.ownsRow 0 5 1 v l.length (cellsOf l)) (ho : OpV w own c o)
    (hd : ∀ k, own k = some .ink → v.ownBlock ≠ some k ∧ ¬ S k) (hS : ∀ k, v.ownBlock = some k → ¬ S k) (hi : i + 1048576 ≤ drawLim) :
    ∃ g fs, c = .func (.func g) fs #[] ∧ (∀ args w, (callFunc g args).run Tryz.prog w = .ok (.enter g args) w) ∧ Calls Tryz.prog g (fs ++ #[v, .func (.func fid) first #[]]) w fun e w' => ∃ v', e = .returned v' ∧
      I (redoOp bit o i l).2 w' ∧ RowTo S lb w w' v v' (redoOp bit o i l).1 := by
  cases o with
  | write off b =>
    obtain ⟨bv, rfl, hb, hbk, hb0, hoff, hbl⟩ := ho
    exact ⟨_, _, rfl, by intro args w; kernel_rfl, redoWrite_any L v bv l b off i w hI hv hb (fun k hk => hd k (hbk k hk)) hS hb0 hoff hbl (by omega)⟩
  | cut n =>
    obtain ⟨rfl, hn⟩ := ho
    exact ⟨_, _, rfl, by intro args w; kernel_rfl, redoCut_any L v l n i w hI hv hS hn (by omega)⟩
end Go.Proofs.YtldkeelgnfegeaaGreat
