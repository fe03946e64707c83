/- The law of how much room there is: what its loops keep. -/
import Derived.Test.YtljhflkcikpoiaaDskS
namespace Go.Proofs.Ytljhflkcikpoiaa
open Go Go.RowKit Go.By

def nm : Nat → ByteArray
  | 0 => ⟨#[97]⟩
  | 1 => ⟨#[98]⟩
  | _ => ⟨#[99]⟩
theorem nm_may : ∀ k, mayName (nm k) = true
  | 0 => rfl
  | 1 => rfl
  | _ + 2 => rfl
theorem nm_size : ∀ k, (nm k).size = 1
  | 0 => rfl
  | 1 => rfl
  | _ + 2 => rfl
theorem nm_inj {k j : Nat} (hk : k < 3) (hj : j < 3) (h : nm k = nm j) : k = j := by
  match k, j with
  | 0, 0 => rfl
  | 1, 1 => rfl
  | 2, 2 => rfl
  | 0, 1 => exact absurd h (by decide)
  | 0, 2 => exact absurd h (by decide)
  | 1, 0 => exact absurd h (by decide)
  | 1, 2 => exact absurd h (by decide)
  | 2, 0 => exact absurd h (by decide)
  | 2, 1 => exact absurd h (by decide)
  | _ + 3, _ => omega
  | _, _ + 3 => omega

/-- What the law's loops keep of the disk: j files are made, their lengths are sz. -/
structure RI (W : World) (nb room j m : Nat) (sz : Nat → Nat) (a : Nat) (own : Own) (D : DiskA) (wr : World) : Prop where
  disk : DiskIs wr own a D
  ok : D.Ok
  far : ∀ k r, own k = some r → W.heap.size ≤ k
  below : Below W.heap.size W wr
  room : D.room = room
  left : D.left = 0
  ops : D.ops ≤ m
  laid : D.laid.length = j
  made : D.made = j
  seen : ∀ k, k < 3 → Mp.get D.seen (nm k) = if k < j then some (k + 1) else none
  flaid : ∀ n, (D.cont n).laid.length ≤ m
  size : ∀ n, (D.cont n).seen.length = sz n
  used : D.used = sz 1 + sz 2 + sz 3
  names : own nb = none ∧ nb < wr.heap.size ∧ ∀ k, k < 3 → wr.cell? ⟨nb, k, none⟩ = some (.string (nm k))

theorem RI.steps {W w w' : World} {own own' : Own} (far : ∀ k r, own k = some r → W.heap.size ≤ k) (hb : Below W.heap.size W w) (hs : Steps own own' w w') (hd : ∀ k r, own' k = some r → k < w'.heap.size) :
    Below W.heap.size W w' ∧ ∀ k r, own' k = some r → W.heap.size ≤ k := by
  refine ⟨hb.trans (hs.below hb.size far), fun k r hk => ?_⟩
  by_cases h : k < w.heap.size
  · rw [hs.same k h] at hk; exact far k r hk
  · have := hb.size; omega

theorem DiskA.begin_fine {D : DiskA} (h : D.left = 0) : D.begin true = ({ D with ops := D.ops + 1, left := 0 }, 0) := by
  unfold DiskA.begin
  rw [if_neg (by omega), h]; rfl

theorem RI.names_stay {w w' : World} {own own' : Own} {nb : Nat} (h : own nb = none ∧ nb < w.heap.size ∧ ∀ k, k < 3 → w.cell? ⟨nb, k, none⟩ = some (.string (nm k))) (hs : Steps own own' w w') :
    own' nb = none ∧ nb < w'.heap.size ∧ ∀ k, k < 3 → w'.cell? ⟨nb, k, none⟩ = some (.string (nm k)) :=
  ⟨(hs.same nb h.2.1).trans h.1, Nat.lt_of_lt_of_le h.2.1 hs.size, fun k hk => (World.cell?_of_block (hs.block nb h.2.1 (.inl h.1))).trans (h.2.2 k hk)⟩

theorem DiskA.create_ok {D : DiskA} (h : D.Ok) (s : ByteArray) (fb : Nat) : (D.create s fb).Ok := by
  have hin : ∀ n, (Mp.get D.fm n).isSome = true → (Mp.get (Mp.put D.fm (D.made + 1) fb) n).isSome = true := fun n hn => by
    rw [Mp.get_put]; split
    · rfl
    · exact hn
  have hnew : (Mp.get (Mp.put D.fm (D.made + 1) fb) (D.made + 1)).isSome = true := by rw [Mp.get_put, if_pos rfl]; rfl
  refine ⟨fun t n ht => ?_, fun t n ht => hin n (h.keptIn t n ht), fun t n ht => ?_, fun n hn => ?_⟩
  · have ht' : Mp.get (Mp.put D.seen s (D.made + 1)) t = some n := ht
    rw [Mp.get_put] at ht'
    split at ht'
    · cases ht'; exact hnew
    · exact hin n (h.seenIn t n ht')
  · have ht' : NameOp.create t n ∈ D.laid ++ [.create s (D.made + 1)] := ht
    rcases List.mem_append.1 ht' with h' | h'
    · exact hin n (h.laidIn t n h')
    · rw [List.mem_singleton] at h'
      cases h'; exact hnew
  · have hn' : (Mp.get (Mp.put D.fm (D.made + 1) fb) n).isSome = true := hn
    rw [Mp.get_put] at hn'
    show n ≤ D.made + 1
    split at hn'
    · omega
    · have := h.made n hn'; omega

theorem RI.create {W wr w' : World} {nb room j m a : Nat} {own : Own} {D : DiskA} {e : Ending} (h : RI W nb room j m (fun _ => 0) a own D wr) (hj : j < 3) (hc : Created own a D (nm j) wr e w') :
    e = .returned (.int .i64 0) ∧ ∃ own' D', RI W nb room (j + 1) (m + 1) (fun _ => 0) a own' D' w' := by
  obtain ⟨own', hs, hc⟩ := hc
  rw [nm_may, DiskA.begin_fine h.left] at hc
  rcases hc with ⟨h1, _⟩ | ⟨_, h1, _⟩ | ⟨_, _, rfl, fb, hd⟩
  · exact absurd rfl h1
  · have := h.seen j hj
    rw [if_neg (Nat.lt_irrefl j)] at this
    rw [this] at h1; cases h1
  · obtain ⟨hb, hf⟩ := RI.steps h.far h.below hs hd.here
    refine ⟨rfl, own', _, ⟨hd, ?_, hf, hb, h.room, rfl, ?_, ?_, ?_, fun k hk => ?_, fun n => ?_, fun n => ?_, ?_, RI.names_stay h.names hs⟩⟩
    · exact DiskA.create_ok (D := { D with ops := D.ops + 1, left := 0 }) ⟨h.ok.seenIn, h.ok.keptIn, h.ok.laidIn, h.ok.made⟩ _ _
    · show D.ops + 1 ≤ m + 1
      have := h.ops; omega
    · show (D.laid ++ [_]).length = j + 1
      simp [h.laid]
    · show D.made + 1 = j + 1
      rw [h.made]
    · show Mp.get (Mp.put D.seen (nm j) (D.made + 1)) (nm k) = _
      rw [Mp.get_put, h.made]
      by_cases hkj : nm j = nm k
      · have := nm_inj hj hk hkj
        subst this
        rw [if_pos rfl, if_pos (by omega)]
      · rw [if_neg hkj, h.seen k hk]
        have : k ≠ j := fun e => hkj (by rw [e])
        by_cases h1 : k < j
        · rw [if_pos h1, if_pos (by omega)]
        · rw [if_neg h1, if_neg (by omega)]
    · show (if n = D.made + 1 then (⟨[], [], []⟩ : FileA) else D.cont n).laid.length ≤ m + 1
      split
      · exact Nat.zero_le _
      · have := h.flaid n; omega
    · show (if n = D.made + 1 then (⟨[], [], []⟩ : FileA) else D.cont n).seen.length = 0
      split
      · rfl
      · exact h.size n
    · show D.used = _
      rw [h.used]

/-- What an operation on one of the three files leaves. -/
theorem RI.alter {W wr w' : World} {nb room m a x n : Nat} {sz : Nat → Nat} {own own' : Own} {D : DiskA} {o : ByteOp} (h : RI W nb room 3 m sz a own D wr) (hs : Steps own own' wr w') (hn : 1 ≤ n ∧ n ≤ 3) (hx : ((D.cont n).alter o).seen.length = x)
    (hd : DiskIs w' own' a (({ D with ops := D.ops + 1, left := 0 } : DiskA).alterFile n o)) : RI W nb room 3 (m + 1) (fun k => if k = n then x else sz k) a own' (({ D with ops := D.ops + 1, left := 0 } : DiskA).alterFile n o) w' := by
  obtain ⟨hb, hf⟩ := RI.steps h.far h.below hs hd.here
  refine ⟨hd, ⟨h.ok.seenIn, h.ok.keptIn, h.ok.laidIn, h.ok.made⟩, hf, hb, h.room, rfl, ?_, h.laid, h.made, h.seen, fun k => ?_, fun k => ?_, ?_, RI.names_stay h.names hs⟩
  · show D.ops + 1 ≤ m + 1
    have := h.ops; omega
  · show (if k = n then (D.cont n).alter o else D.cont k).laid.length ≤ m + 1
    split
    · show ((D.cont n).laid ++ [o]).length ≤ m + 1
      have := h.flaid n
      simp; omega
    · have := h.flaid k; omega
  · show (if k = n then (D.cont n).alter o else D.cont k).seen.length = _
    split
    · exact hx
    · exact h.size k
  · show D.used + (((D.cont n).alter o).seen.length - (D.cont n).seen.length : Int) = _
    rw [hx, h.used, h.size n]
    have h3 : n = 1 ∨ n = 2 ∨ n = 3 := by omega
    rcases h3 with rfl | rfl | rfl <;> simp <;> omega

/-- What an operation leaves that turns nothing. -/
theorem RI.same {W wr w' : World} {nb room m a : Nat} {sz : Nat → Nat} {own own' : Own} {D : DiskA} (h : RI W nb room 3 m sz a own D wr) (hs : Steps own own' wr w')
    (hd : DiskIs w' own' a ({ D with ops := D.ops + 1, left := 0 } : DiskA)) : RI W nb room 3 (m + 1) sz a own' ({ D with ops := D.ops + 1, left := 0 } : DiskA) w' := by
  obtain ⟨hb, hf⟩ := RI.steps h.far h.below hs hd.here
  exact ⟨hd, ⟨h.ok.seenIn, h.ok.keptIn, h.ok.laidIn, h.ok.made⟩, hf, hb, h.room, rfl, by show D.ops + 1 ≤ m + 1; have := h.ops; omega, h.laid, h.made, h.seen, fun k => by have := h.flaid k; show (D.cont k).laid.length ≤ m + 1; omega, h.size, h.used, RI.names_stay h.names hs⟩

/-- The law's first step. -/
theorem RI.start {W w2 : World} {room : Nat} {ob : Obj} (hb : Below W.heap.size W w2) (hs : W.heap.size < w2.heap.size) (hd : DiskIs w2 (fun k => if k = W.heap.size then some .disk else none) W.heap.size (DiskA.new room))
    (ho : ∀ k, k < 3 → (w2.alloc ob).cell? ⟨w2.heap.size, k, none⟩ = some (.string (nm k))) : RI W w2.heap.size room 0 0 (fun _ => 0) W.heap.size (fun k => if k = W.heap.size then some .disk else none) (DiskA.new room) (w2.alloc ob) := by
  refine ⟨hd.beside (o1 := fun _ => none) (o2 := fun _ => none) (Steps.of_below ((Below.refl _ _).alloc (Nat.le_refl _) _)) (fun _ _ _ => .inl rfl), DiskA.new_ok _, fun k r hk => ?_, hb.alloc hb.size _, ?_, rfl, Nat.le_refl _, rfl, rfl, fun k _ => rfl, fun n => Nat.le_refl _, fun n => rfl, rfl, ⟨?_, by simp, ho⟩⟩
  · split at hk
    · omega
    · cases hk
  · show (if (room : Int) < 0 then (0 : Int) else room) = room
    rw [if_neg (by omega)]
  · exact if_neg (by omega)

/-- What the second loop keeps: the law's own table of lengths besides. -/
structure SI (W : World) (nb sb room i : Nat) (sz : Nat → Nat) (a : Nat) (own : Own) (D : DiskA) (wr : World) : Prop where
  base : RI W nb room 3 (3 + i) sz a own D wr
  row : wr.heap[sb]? = some (.cells #[.int .i64 (sz 1 : Nat), .int .i64 (sz 2 : Nat), .int .i64 (sz 3 : Nat)] 45 (0, 0))
  off : own sb = none ∧ W.heap.size ≤ sb ∧ sb ≠ nb
  few : ∀ k, sz k ≤ 150
  fits : sz 1 + sz 2 + sz 3 ≤ room
theorem SI.start {W wr : World} {nb room a : Nat} {own : Own} {D : DiskA} (h : RI W nb room 3 3 (fun _ => 0) a own D wr) : SI W nb wr.heap.size room 0 (fun _ => 0) a own D (wr.alloc (.cells #[.int .i64 0, .int .i64 0, .int .i64 0] 45)) := by
  have hst : Steps (fun _ => none) (fun _ => none) wr (wr.alloc (.cells #[.int .i64 0, .int .i64 0, .int .i64 0] 45)) := Steps.of_below ((Below.refl _ _).alloc (Nat.le_refl _) _)
  refine ⟨⟨h.disk.beside (o1 := fun _ => none) (o2 := fun _ => none) hst (fun _ _ _ => .inl rfl), h.ok, h.far, h.below.alloc h.below.size _, h.room, h.left, h.ops, h.laid, h.made, h.seen, h.flaid, h.size, h.used, ⟨h.names.1, by have := h.names.2.1; simp; omega, fun k hk => ?_⟩⟩, heap_alloc_new wr _, ⟨?_, h.below.size, ?_⟩, fun _ => Nat.zero_le _, Nat.zero_le _⟩
  · exact (World.cell?_of_block (hst.block nb h.names.2.1 (.inl rfl))).trans (h.names.2.2 k hk)
  · cases e : own wr.heap.size with
    | none => rfl
    | some r => exact absurd (h.disk.here _ r e) (Nat.lt_irrefl _)
  · have := h.names.2.1; omega
theorem SI.drawn {W w w' : World} {nb sb room i a : Nat} {sz : Nat → Nat} {own : Own} {D : DiskA} (h : SI W nb sb room i sz a own D w) (e1 : w'.heap = w.heap) (e2 : w'.os = w.os) (e3 : w'.tape = w.tape) (e4 : w'.output = w.output) : SI W nb sb room i sz a own D w' :=
  ⟨⟨h.base.disk.same e1, h.base.ok, h.base.far, h.base.below.trans ⟨e2, e3, e4, by rw [e1]; exact Nat.le_refl _, fun k _ => by rw [e1]⟩, h.base.room, h.base.left, h.base.ops, h.base.laid, h.base.made, h.base.seen, h.base.flaid, h.base.size, h.base.used,
    ⟨h.base.names.1, by rw [e1]; exact h.base.names.2.1, fun k hk => (World.cell?_of_block (by rw [e1])).trans (h.base.names.2.2 k hk)⟩⟩, by rw [e1]; exact h.row, h.off, h.few, h.fits⟩
theorem SI.cell {W w : World} {nb sb room i a : Nat} {sz : Nat → Nat} {own : Own} {D : DiskA} (h : SI W nb sb room i sz a own D w) {k : Nat} (hk : k < 3) : w.cell? ⟨sb, k, none⟩ = some (.int .i64 (sz (k + 1) : Nat)) ∧ w.frozen? ⟨sb, k, none⟩ = false := by
  refine ⟨?_, free_of h.row k⟩
  rw [cells_of h.row]
  match k with
  | 0 => rfl
  | 1 => rfl
  | 2 => rfl
  | _ + 3 => omega
theorem SI.old {W w0 w : World} {nb sb room i a : Nat} {sz : Nat → Nat} {own : Own} {D : DiskA} (h : SI W nb sb room i sz a own D w) (hb : Below w0.heap.size w0 W) {ad : Addr} {v : Value} (hc : w0.cell? ad = some v) : w.cell? ad = some v := by
  have hlt : ad.block < w0.heap.size := block_lt_of_cell hc
  exact (World.cell?_of_block ((h.base.below.block ad.block (Nat.lt_of_lt_of_le hlt hb.size)).trans (hb.block ad.block hlt))).trans hc
theorem SI.goes {W w w' : World} {nb sb room i a m : Nat} {sz sz' : Nat → Nat} {own own' : Own} {D D' : DiskA} (h : SI W nb sb room i sz a own D w) (hs : Steps own own' w w') (hr : RI W nb room 3 m sz' a own' D' w') (hm : m = 3 + (i + 1)) :
    RI W nb room 3 (3 + (i + 1)) sz' a own' D' w' ∧ w'.heap[sb]? = some (.cells #[.int .i64 (sz 1 : Nat), .int .i64 (sz 2 : Nat), .int .i64 (sz 3 : Nat)] 45 (0, 0)) ∧ own' sb = none := by
  have hlt : sb < w.heap.size := (Array.getElem?_eq_some_iff.1 h.row).1
  exact ⟨hm ▸ hr, (hs.block sb hlt (.inl h.off.1)).trans h.row, (hs.same sb hlt).trans h.off.1⟩

/-- Does it fit? -/
@[reducible] def fitsIn (sz : Nat → Nat) (room k to : Nat) : Prop := (sz 1 : Int) + sz 2 + sz 3 - sz (k + 1) + to ≤ room

theorem sz_le (sz : Nat → Nat) {k : Nat} (hk : k < 3) : sz (k + 1) ≤ sz 1 + sz 2 + sz 3 := by
  match k, hk with
  | 0, _ => show sz 1 ≤ _; omega
  | 1, _ => show sz 2 ≤ _; omega
  | 2, _ => show sz 3 ≤ _; omega

theorem SI.hasRoom {W w : World} {nb sb room i a : Nat} {sz : Nat → Nat} {own : Own} {D : DiskA} (h : SI W nb sb room i sz a own D w) {k : Nat} (hk : k < 3) (size : Nat) :
    ({ D with ops := D.ops + 1, left := 0 } : DiskA).hasRoom (k + 1) size = decide (size ≤ sz (k + 1) ∨ fitsIn sz room k size) := by
  show (decide ((size : Int) - ((D.cont (k + 1)).seen.length : Int) ≤ 0) || decide ((size : Int) - ((D.cont (k + 1)).seen.length : Int) ≤ D.room - D.used)) = _
  rw [h.base.size, h.base.room, h.base.used, ← Bool.decide_or]
  apply decide_eq_decide.2
  unfold fitsIn
  have := sz_le sz hk
  have := h.fits
  omega

/-- What a Truncate or a Write leaves. -/
def Left (W : World) (nb sb room i : Nat) (sz : Nat → Nat) (a : Nat) (w' : World) (sz' : Nat → Nat) : Prop :=
  ∃ own' D', RI W nb room 3 (3 + (i + 1)) sz' a own' D' w' ∧ w'.heap[sb]? = some (.cells #[.int .i64 (sz 1 : Nat), .int .i64 (sz 2 : Nat), .int .i64 (sz 3 : Nat)] 45 (0, 0)) ∧ own' sb = none

theorem SI.truncate {W w w' : World} {nb sb room i a : Nat} {sz : Nat → Nat} {own : Own} {D : DiskA} {e : Ending} (h : SI W nb sb room i sz a own D w) {k off : Nat} (hk : k < 3) (hoff : off ≤ 16777216)
    (hf : Filed own a (D.begin (mayNumber off && mayName (nm k))).1 (D.begin (mayNumber off && mayName (nm k))).2 (nm k) ((D.begin (mayNumber off && mayName (nm k))).1.truncate · off) w e w') :
    (fitsIn sz room k off ∧ e = .returned (.int .i64 0) ∧ Left W nb sb room i sz a w' (fun j => if j = k + 1 then off else sz j)) ∨ (¬ fitsIn sz room k off ∧ e = .returned (.int .i64 4) ∧ Left W nb sb room i sz a w' sz) := by
  have hm : mayNumber (off : Int) = true := by unfold mayNumber; simp; omega
  have hle : ∀ size : Nat, size ≤ sz (k + 1) → fitsIn sz room k size := fun size hs => by
    unfold fitsIn; have := h.fits; have := sz_le sz hk; omega
  rw [hm, nm_may, Bool.and_self, DiskA.begin_fine h.base.left] at hf
  obtain ⟨own', hs, hf⟩ := hf
  rcases hf with ⟨h1, _⟩ | ⟨_, h1, _⟩ | ⟨_, n, x, D2, h1, hp, rfl, hd⟩
  · exact absurd rfl h1
  · have h1' : Mp.get D.seen (nm k) = none := h1
    rw [h.base.seen k hk, if_pos hk] at h1'; cases h1'
  · have h1' : Mp.get D.seen (nm k) = some n := h1
    rw [h.base.seen k hk, if_pos hk] at h1'
    cases h1'
    rcases hp with ⟨hr, rfl, rfl⟩ | ⟨hr, rfl, rfl⟩
    · rw [h.hasRoom hk] at hr
      have hr' := of_decide_eq_false hr
      refine .inr ⟨fun hh => hr' (.inr hh), rfl, own', _, h.goes hs (h.base.same hs hd) (by omega)⟩
    · rw [h.hasRoom hk] at hr
      have hr' := of_decide_eq_true hr
      refine .inl ⟨hr'.elim (hle off) id, rfl, own', _, h.goes hs (h.base.alter hs ⟨by omega, by omega⟩ ?_ hd) (by omega)⟩
      show (if allBits 0 then fitL (D.cont (k + 1)).seen (off : Int).toNat else (D.cont (k + 1)).seen).length = off
      simp [allBits, fitL_length]
theorem redoWrite_end {off : Nat} {b : List Nat} {bit : Nat → Bool} (f k i : Nat) (l : List Nat) (hk : ¬ k < b.length) : redoWrite off b bit f k i l = (l, i) := by
  cases f with
  | zero => rfl
  | succ f => unfold redoWrite; rw [if_neg hk]
theorem redoWrite_all {off : Nat} {b : List Nat} : ∀ (f k i : Nat) (l : List Nat), k < b.length → b.length ≤ k + f → (redoWrite off b allBits f k i l).1.length = max l.length (off + b.length)
  | 0, k, _, _, h1, h2 => by omega
  | f + 1, k, i, l, h1, h2 => by
    have hp := pieceLen_le off b.length k
    have hp0 := pieceLen_pos (off := off) h1
    have hl : ((b.drop k).take (pieceLen off b.length k)).length = pieceLen off b.length k := by simp; omega
    unfold redoWrite
    rw [if_pos h1, if_pos (show allBits i = true from rfl)]
    by_cases h : k + pieceLen off b.length k < b.length
    · rw [redoWrite_all f _ _ _ h (by omega), putL_length, hl]; omega
    · rw [redoWrite_end _ _ _ _ h]
      show (putL _ _ _).length = _
      rw [putL_length, hl]; omega

theorem SI.write {W w w' : World} {nb sb room i a : Nat} {sz : Nat → Nat} {own : Own} {D : DiskA} {e : Ending} (h : SI W nb sb room i sz a own D w) {k off cnt : Nat} (hk : k < 3) (hoff : off ≤ 16777216)
    (hf : Filed own a (D.begin (mayNumber off && mayName (nm k))).1 (D.begin (mayNumber off && mayName (nm k))).2 (nm k) ((D.begin (mayNumber off && mayName (nm k))).1.write · off (List.replicate cnt 0)) w e w') :
    (cnt = 0 ∧ e = .returned (.int .i64 0) ∧ Left W nb sb room i sz a w' sz) ∨
    (0 < cnt ∧ fitsIn sz room k (max (sz (k + 1)) (off + cnt)) ∧ e = .returned (.int .i64 0) ∧ Left W nb sb room i sz a w' (fun j => if j = k + 1 then max (sz (k + 1)) (off + cnt) else sz j)) ∨ (0 < cnt ∧ ¬ fitsIn sz room k (max (sz (k + 1)) (off + cnt)) ∧ e = .returned (.int .i64 4) ∧ Left W nb sb room i sz a w' sz) := by
  have hm : mayNumber (off : Int) = true := by unfold mayNumber; simp; omega
  have hle : ∀ size : Nat, size ≤ sz (k + 1) → fitsIn sz room k (max (sz (k + 1)) size) := fun size hs => by
    unfold fitsIn; have := h.fits; have := sz_le sz hk; omega
  have hge : ∀ size : Nat, ¬ size ≤ sz (k + 1) → (fitsIn sz room k (max (sz (k + 1)) size) ↔ fitsIn sz room k size) := fun size hs => by
    have : max (sz (k + 1)) size = size := by omega
    rw [this]
  rw [hm, nm_may, Bool.and_self, DiskA.begin_fine h.base.left] at hf
  obtain ⟨own', hs, hf⟩ := hf
  rcases hf with ⟨h1, _⟩ | ⟨_, h1, _⟩ | ⟨_, n, x, D2, h1, hp, rfl, hd⟩
  · exact absurd rfl h1
  · have h1' : Mp.get D.seen (nm k) = none := h1
    rw [h.base.seen k hk, if_pos hk] at h1'; cases h1'
  · have h1' : Mp.get D.seen (nm k) = some n := h1
    rw [h.base.seen k hk, if_pos hk] at h1'
    cases h1'
    have hlen : ((off : Int) + (List.replicate cnt 0).length : Int) = ((off + cnt : Nat) : Int) := by simp
    unfold DiskA.write at hp
    rw [hlen] at hp
    have hne : List.replicate cnt 0 ≠ [] → 0 < cnt := fun hb => by
      cases cnt with
      | zero => exact absurd rfl hb
      | succ c => omega
    rcases hp with ⟨hb, rfl, rfl⟩ | ⟨hb, hr, rfl, rfl⟩ | ⟨hb, hr, rfl, rfl⟩
    · have : cnt = 0 := by simpa using congrArg List.length hb
      exact .inl ⟨this, rfl, own', _, h.goes hs (h.base.same hs hd) (by omega)⟩
    · rw [h.hasRoom hk] at hr
      have hr' := of_decide_eq_false hr
      refine .inr (.inr ⟨hne hb, fun hh => hr' ?_, rfl, own', _, h.goes hs (h.base.same hs hd) (by omega)⟩)
      by_cases hs' : off + cnt ≤ sz (k + 1)
      · exact .inl hs'
      · exact .inr ((hge _ hs').1 hh)
    · rw [h.hasRoom hk] at hr
      have hr' := of_decide_eq_true hr
      refine .inr (.inl ⟨hne hb, ?_, rfl, own', _, h.goes hs (h.base.alter hs ⟨by omega, by omega⟩ ?_ hd) (by omega)⟩)
      · by_cases hs' : off + cnt ≤ sz (k + 1)
        · exact hle _ hs'
        · exact (hge _ hs').2 (hr'.resolve_left hs')
      · have hb0 := hne hb
        have := redoWrite_all (off := ((off : Int)).toNat) (b := List.replicate cnt 0) (List.replicate cnt 0).length 0 0 (D.cont (k + 1)).seen (by simpa using hb0) (by omega)
        show (redoWrite ((off : Int)).toNat (List.replicate cnt 0) allBits (List.replicate cnt 0).length 0 0 (D.cont (k + 1)).seen).1.length = _
        rw [this, h.base.size]
        simp
end Go.Proofs.Ytljhflkcikpoiaa
