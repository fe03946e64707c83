/- The disk as a file sees it: what each operation makes of it, as functions; the numbers of its tables are left out. -/
import Derived.Test.YtldkeelgnfegeaaGreatMDskBF

namespace Go.Proofs.YtldkeelgnfegeaaGreat
open Go Go.RowKit Go.By

structure Sk where
  room : Int
  used : Int
  ops : Nat
  left : Nat
  made : Nat
  seen : List (ByteArray × Nat)
  kept : List (ByteArray × Nat)
  laid : List NameOp
  cont : Nat → FileA
def DiskA.sk (D : DiskA) : Sk := ⟨D.room, D.used, D.ops, D.left, D.made, D.seen, D.kept, D.laid, D.cont⟩
def Sk.tick (S : Sk) : Sk := { S with ops := S.ops + 1, left := S.left - 1 }
def Sk.err (S : Sk) (may : Bool) : Int := if S.left = 1 then 5 else if may then 0 else 1
theorem sk_begin (D : DiskA) (m : Bool) : (D.begin m).1.sk = D.sk.tick ∧ (D.begin m).2 = D.sk.err m := by
  unfold DiskA.begin Sk.err
  by_cases h : D.left = 1
  · rw [if_pos h, if_pos (show D.sk.left = 1 from h)]
    refine ⟨?_, rfl⟩
    show (⟨D.room, D.used, D.ops + 1, 0, D.made, D.seen, D.kept, D.laid, D.cont⟩ : Sk) = ⟨D.room, D.used, D.ops + 1, D.left - 1, D.made, D.seen, D.kept, D.laid, D.cont⟩
    rw [h]
  · rw [if_neg h, if_neg (show ¬ D.sk.left = 1 from h)]
    exact ⟨rfl, rfl⟩
def Sk.hasRoom (S : Sk) (n : Nat) (size : Int) : Bool := decide (size - ((S.cont n).seen.length : Int) ≤ 0) || decide (size - ((S.cont n).seen.length : Int) ≤ S.room - S.used)
def Sk.withFile (S : Sk) (n : Nat) (F : FileA) : Sk := { S with cont := fun k => if k = n then F else S.cont k }
def Sk.alterFile (S : Sk) (n : Nat) (o : ByteOp) : Sk := { S.withFile n ((S.cont n).alter o) with used := S.used + (S.cont n).more o }
/-- An operation on a file that has to be there. -/
def Sk.onFile (S : Sk) (s : ByteArray) (may : Bool) (f : Sk → Nat → Sk × Int) : Sk × Int :=
  if S.err (may && mayName s) ≠ 0 then (S.tick, S.err (may && mayName s)) else
    match Mp.get S.seen s with
    | none => (S.tick, 3)
    | some n => f S.tick n
def Sk.writeAt (off : Int) (b : List Nat) (T : Sk) (n : Nat) : Sk × Int :=
  if b = [] then (T, 0) else if T.hasRoom n (off + b.length) then (T.alterFile n (.write off.toNat b), 0) else (T, 4)
def Sk.cutAt (size : Int) (T : Sk) (n : Nat) : Sk × Int := if T.hasRoom n size then (T.alterFile n (.cut size.toNat), 0) else (T, 4)
def Sk.write (S : Sk) (s : ByteArray) (off : Int) (b : List Nat) : Sk × Int := S.onFile s (mayNumber off) (Sk.writeAt off b)
def Sk.truncate (S : Sk) (s : ByteArray) (size : Int) : Sk × Int := S.onFile s (mayNumber size) (Sk.cutAt size)
def Sk.sync (S : Sk) (s : ByteArray) : Sk × Int := S.onFile s true fun T n => (T.withFile n (T.cont n).settle, 0)
def Sk.create (S : Sk) (s : ByteArray) : Sk × Int :=
  if S.err (mayName s) ≠ 0 then (S.tick, S.err (mayName s)) else if (Mp.get S.seen s).isSome then (S.tick, 8) else
    ({ S.tick.withFile (S.made + 1) ⟨[], [], []⟩ with made := S.made + 1, seen := Mp.put S.seen s (S.made + 1), laid := S.laid ++ [.create s (S.made + 1)] }, 0)
def Sk.size (S : Sk) (s : ByteArray) : Option Nat := (Mp.get S.seen s).map fun n => (S.cont n).seen.length
def Sk.read (S : Sk) (s : ByteArray) (off n : Int) : List Nat × Int :=
  if S.err ((mayNumber off && mayNumber n) && mayName s) ≠ 0 then ([], S.err ((mayNumber off && mayNumber n) && mayName s)) else
    match Mp.get S.seen s with
    | none => ([], 3)
    | some k => if ((S.cont k).seen.length : Int) < off + n then ([], 2) else (((S.cont k).seen.drop off.toNat).take n.toNat, 0)

/-- Nothing is too great. -/
structure Sk.Fine (S : Sk) : Prop where
  ops : S.ops < 4611686018427387904
  left : S.left < 4611686018427387904
  made : S.made < 1000000
  laid : S.laid.length < 1000000
  few : ∀ n, (S.cont n).laid.length < 1000000
  short : ∀ n, (S.cont n).seen.length ≤ 1099511627776
  room : 0 ≤ S.room ∧ S.room ≤ 9223372036854775807
  used : 0 ≤ S.used ∧ S.used ≤ 4611686018427387904

/-- The disk S lies at a, behind all that was there in W. -/
structure Dsk (W : World) (a : Nat) (S : Sk) (own : Own) (w : World) : Prop where
  out : ∃ D, DiskIs w own a D ∧ D.Ok ∧ D.sk = S
  far : ∀ k r, own k = some r → W.heap.size ≤ k
  below : Below W.heap.size W w
theorem Dsk.here {W w : World} {a : Nat} {S : Sk} {own : Own} (h : Dsk W a S own w) : ∀ k r, own k = some r → k < w.heap.size := let ⟨_, hd, _⟩ := h.out; hd.here
theorem Dsk.role {W w : World} {a : Nat} {S : Sk} {own : Own} (h : Dsk W a S own w) : own a = some .disk := let ⟨_, hd, _⟩ := h.out; hd.role
theorem Dsk.new_none {W w : World} {a : Nat} {S : Sk} {own : Own} (h : Dsk W a S own w) {k : Nat} (hk : w.heap.size ≤ k) : own k = none := by
  cases e : own k with
  | none => rfl
  | some r => have := h.here k r e; omega
theorem Dsk.of_steps {W w w' : World} {a : Nat} {S S' : Sk} {own own' : Own} (h : Dsk W a S own w) (hs : Steps own own' w w') (ho : ∃ D, DiskIs w' own' a D ∧ D.Ok ∧ D.sk = S') : Dsk W a S' own' w' := by
  refine ⟨ho, fun k r hk => ?_, h.below.trans (hs.below h.below.size h.far)⟩
  by_cases hl : k < w.heap.size
  · rw [hs.same k hl] at hk; exact h.far k r hk
  · have := h.below.size; omega
theorem Dsk.stay {W w w' : World} {a : Nat} {S : Sk} {own : Own} (h : Dsk W a S own w) (hb : Below w.heap.size w w') : Dsk W a S own w' := by
  refine h.of_steps (Steps.of_below hb) ?_
  obtain ⟨D, hd, hok, e⟩ := h.out
  exact ⟨D, hd.beside (o1 := fun _ => none) (o2 := fun _ => none) (Steps.of_below hb) (fun _ _ _ => .inl rfl), hok, e⟩
/-- What is turned is not the disk's. -/
theorem Dsk.set {W w : World} {a : Nat} {S : Sk} {own : Own} (h : Dsk W a S own w) {g : Nat} (hn : own g = none) (hf : W.heap.size ≤ g) (j : Nat) (v : Value) : Dsk W a S own (w.setCell ⟨g, j, none⟩ v) := by
  have hst : Steps (fun k => if k = g then some .disk else none) (fun k => if k = g then some .disk else none) w (w.setCell ⟨g, j, none⟩ v) :=
    ⟨rfl, rfl, rfl, by simp [World.setCell], fun k _ ho => by
      have hne : k ≠ g := by
        intro e; subst e
        rw [if_pos rfl] at ho
        rcases ho with h | h <;> cases h
      exact Below.heap_setCell _ _ _ _ hne, fun _ _ => rfl⟩
  obtain ⟨D, hd, hok, e⟩ := h.out
  exact ⟨⟨D, hd.beside hst (fun k r hr => .inl (if_neg (by intro e; subst e; rw [hn] at hr; cases hr))), hok, e⟩, h.far, h.below.setCell hf v⟩

theorem Dsk.new {w w' : World} {R : Int} (hd : DiskIs w' (fun k => if k = w.heap.size then some .disk else none) w.heap.size (DiskA.new R)) (hb : Below w.heap.size w w') :
    Dsk w w.heap.size (DiskA.new R).sk (fun k => if k = w.heap.size then some .disk else none) w' :=
  ⟨⟨_, hd, DiskA.new_ok R, rfl⟩, fun k r hk => (by
    have hk' : (if k = w.heap.size then some Role.disk else none) = some r := hk
    split at hk'
    · omega
    · cases hk'), hb⟩

theorem filed_sk {W w w' : World} {a : Nat} {D : DiskA} {own : Own} {s : ByteArray} {m : Bool} {e : Ending} {f : Sk → Nat → Sk × Int} {post : Nat → Int → DiskA → Prop} (h : Dsk W a D.sk own w) (hok : D.Ok)
    (hp : ∀ n x D2, Mp.get (D.begin (m && mayName s)).1.seen s = some n → post n x D2 → D2.Ok ∧ (D2.sk, x) = f D.sk.tick n)
    (hc : Filed own a (D.begin (m && mayName s)).1 (D.begin (m && mayName s)).2 s post w e w') :
    e = .returned (.int .i64 (D.sk.onFile s m f).2) ∧ ∃ own', Steps own own' w w' ∧ Dsk W a (D.sk.onFile s m f).1 own' w' := by
  obtain ⟨own', hs, hc⟩ := hc
  obtain ⟨e1, e2⟩ := sk_begin D (m && mayName s)
  have e3 : (D.begin (m && mayName s)).1.seen = D.sk.seen := congrArg Sk.seen e1
  have hok1 := DiskA.begin_ok hok (m && mayName s)
  unfold Sk.onFile
  rcases hc with ⟨h1, rfl, hd⟩ | ⟨h1, h2, rfl, hd⟩ | ⟨h1, n, x, D2, h2, h3, rfl, hd⟩
  · rw [e2] at h1 ⊢
    rw [if_pos h1]
    exact ⟨rfl, own', hs, h.of_steps hs ⟨_, hd, hok1, e1⟩⟩
  · rw [e2] at h1
    rw [e3] at h2
    rw [if_neg (by rw [h1]; decide), h2]
    exact ⟨rfl, own', hs, h.of_steps hs ⟨_, hd, hok1, e1⟩⟩
  · obtain ⟨h4, h5⟩ := hp n x D2 h2 h3
    rw [e2] at h1
    rw [e3] at h2
    rw [if_neg (by rw [h1]; decide), h2]
    dsimp only
    rw [← h5]
    exact ⟨rfl, own', hs, h.of_steps hs ⟨_, hd, h4, rfl⟩⟩

theorem Dsk.write {W w : World} {a : Nat} {S : Sk} {own : Own} (h : Dsk W a S own w) (hF : S.Fine) (s : ByteArray) (hs : s.size ≤ maxLen) (off : Int) {bv : Value} {b : List Nat} (hb : Bytes w bv b) (hbk : b ≠ [] → ∀ k, bv.ownBlock = some k → own k = none ∨ own k = some .ink) (hbl : b.length ≤ 1048576) :
    Calls Tryz.prog 55 #[.pointer (some ⟨a, 0, none⟩), .string s, .int .i64 off, bv] w fun e w' => e = .returned (.int .i64 (S.write s off b).2) ∧ ∃ own', Steps own own' w w' ∧ Dsk W a (S.write s off b).1 own' w' := by
  have h0 := h
  obtain ⟨D, hd, hok, rfl⟩ := h.out
  refine (write_any own a D s off bv b w hd hok hF.ops hF.left hs hF.few hF.room hF.used hF.short hb hbk hbl).mono fun e w' hc => filed_sk h0 hok (fun n x D2 _ hp => ?_) hc
  obtain ⟨e1, _⟩ := sk_begin D (mayNumber off && mayName s)
  have hok1 := DiskA.begin_ok hok (mayNumber off && mayName s)
  generalize (D.begin (mayNumber off && mayName s)).1 = D1 at *
  rw [← e1]
  unfold Sk.writeAt
  rcases hp with ⟨rfl, rfl, rfl⟩ | ⟨h1, h2, rfl, rfl⟩ | ⟨h1, h2, rfl, rfl⟩
  · exact ⟨hok1, by rw [if_pos rfl]⟩
  · exact ⟨hok1, by rw [if_neg h1, if_neg (by rw [show D2.sk.hasRoom n (off + b.length) = D2.hasRoom n (off + b.length) from rfl, h2]; decide)]⟩
  · exact ⟨DiskA.used_ok (DiskA.withFile_ok hok1 _ _) _, by rw [if_neg h1, if_pos (show D1.sk.hasRoom n (off + b.length) = true from h2)]; rfl⟩

theorem Dsk.truncate {W w : World} {a : Nat} {S : Sk} {own : Own} (h : Dsk W a S own w) (hF : S.Fine) (s : ByteArray) (hs : s.size ≤ maxLen) (size : Int) :
    Calls Tryz.prog 22 #[.pointer (some ⟨a, 0, none⟩), .string s, .int .i64 size] w fun e w' => e = .returned (.int .i64 (S.truncate s size).2) ∧ ∃ own', Steps own own' w w' ∧ Dsk W a (S.truncate s size).1 own' w' := by
  have h0 := h
  obtain ⟨D, hd, hok, rfl⟩ := h.out
  refine (truncate_any own a D s size w hd hok hF.ops hF.left hs hF.few hF.room hF.used hF.short).mono fun e w' hc => filed_sk h0 hok (fun n x D2 _ hp => ?_) hc
  obtain ⟨e1, _⟩ := sk_begin D (mayNumber size && mayName s)
  have hok1 := DiskA.begin_ok hok (mayNumber size && mayName s)
  generalize (D.begin (mayNumber size && mayName s)).1 = D1 at *
  rw [← e1]
  unfold Sk.cutAt
  rcases hp with ⟨h2, rfl, rfl⟩ | ⟨h2, rfl, rfl⟩
  · exact ⟨hok1, by rw [if_neg (by rw [show D2.sk.hasRoom n size = D2.hasRoom n size from rfl, h2]; decide)]⟩
  · exact ⟨DiskA.used_ok (DiskA.withFile_ok hok1 _ _) _, by rw [if_pos (show D1.sk.hasRoom n size = true from h2)]; rfl⟩

theorem Dsk.sync {W w : World} {a : Nat} {S : Sk} {own : Own} (h : Dsk W a S own w) (hF : S.Fine) (s : ByteArray) (hs : s.size ≤ maxLen) :
    Calls Tryz.prog 29 #[.pointer (some ⟨a, 0, none⟩), .string s] w fun e w' => e = .returned (.int .i64 (S.sync s).2) ∧ ∃ own', Steps own own' w w' ∧ Dsk W a (S.sync s).1 own' w' := by
  have h0 := h
  obtain ⟨D, hd, hok, rfl⟩ := h.out
  refine (sync_any own a D s w hd hok hF.ops hF.left hs (fun n => Nat.le_of_lt (hF.few n))).mono fun e w' hc => filed_sk (m := true) h0 hok (fun n x D2 _ hp => ?_) (by rw [Bool.true_and]; exact hc)
  obtain ⟨e1, _⟩ := sk_begin D (mayName s)
  have hok1 := DiskA.begin_ok hok (mayName s)
  have hc : D.cont = (D.begin (mayName s)).1.cont := (D.begin_same _).2.2.2.2.1.symm
  obtain ⟨rfl, rfl⟩ := hp
  rw [hc, ← e1]
  exact ⟨DiskA.withFile_ok hok1 _ _, rfl⟩

theorem made_ok {D : DiskA} (h : D.Ok) (s : ByteArray) (fb : Nat) : (D.create s fb).Ok := by
  have hfm : ∀ n, (Mp.get (Mp.put D.fm (D.made + 1) fb) n).isSome = true ↔ n = D.made + 1 ∨ (Mp.get D.fm n).isSome = true := fun n => by
    rw [Mp.get_put]
    by_cases e : D.made + 1 = n
    · subst e; simp
    · rw [if_neg e]
      constructor
      · exact .inr
      · rintro (h | h)
        · exact absurd h.symm e
        · exact h
  refine ⟨fun t n hn => ?_, fun t n hn => ?_, fun t n hn => ?_, fun n hn => ?_⟩
  · refine (hfm n).2 ?_
    have hn' : Mp.get (Mp.put D.seen s (D.made + 1)) t = some n := hn
    rw [Mp.get_put] at hn'
    split at hn'
    · cases hn'; exact .inl rfl
    · exact .inr (h.seenIn t n hn')
  · exact (hfm n).2 (.inr (h.keptIn t n hn))
  · refine (hfm n).2 ?_
    have hn' : NameOp.create t n ∈ D.laid ++ [.create s (D.made + 1)] := hn
    rcases List.mem_append.1 hn' with h1 | h1
    · exact .inr (h.laidIn t n h1)
    · rw [List.mem_singleton] at h1
      cases h1; exact .inl rfl
  · have hn' := (hfm n).1 hn
    show n ≤ D.made + 1
    rcases hn' with h1 | h1
    · omega
    · have := h.made n h1; omega

theorem Dsk.create {W w : World} {a : Nat} {S : Sk} {own : Own} (h : Dsk W a S own w) (hF : S.Fine) (s : ByteArray) (hs : s.size ≤ maxLen) :
    Calls Tryz.prog 21 #[.pointer (some ⟨a, 0, none⟩), .string s] w fun e w' => e = .returned (.int .i64 (S.create s).2) ∧ ∃ own', Steps own own' w w' ∧ Dsk W a (S.create s).1 own' w' := by
  obtain ⟨D, hd, hok, rfl⟩ := h.out
  refine (create_any own a D s w hd hok hF.ops hF.left hs hF.laid hF.made).mono ?_
  rintro e w' ⟨own', hst, hc⟩
  obtain ⟨e1, e2⟩ := sk_begin D (mayName s)
  have hok1 := DiskA.begin_ok hok (mayName s)
  have hseen : D.seen = D.sk.seen := rfl
  unfold Sk.create
  rcases hc with ⟨h1, rfl, hd'⟩ | ⟨h1, h2, rfl, hd'⟩ | ⟨h1, h2, rfl, fb, hd'⟩
  · rw [e2] at h1 ⊢
    rw [if_pos h1]
    exact ⟨rfl, own', hst, h.of_steps hst ⟨_, hd', hok1, e1⟩⟩
  · rw [e2] at h1
    rw [hseen] at h2
    rw [if_neg (by rw [h1]; decide), if_pos h2]
    exact ⟨rfl, own', hst, h.of_steps hst ⟨_, hd', hok1, e1⟩⟩
  · rw [e2] at h1
    rw [hseen] at h2
    rw [if_neg (by rw [h1]; decide), if_neg (by rw [h2]; decide)]
    refine ⟨rfl, own', hst, h.of_steps hst ⟨_, hd', made_ok hok1 _ _, ?_⟩⟩
    have q := fun (f : Sk → Sk) => congrArg f e1
    generalize (D.begin (mayName s)).1 = D1 at *
    have r : ((D1.create s fb).sk) = { D1.sk.withFile (D1.sk.made + 1) ⟨[], [], []⟩ with made := D1.sk.made + 1, seen := Mp.put D1.sk.seen s (D1.sk.made + 1), laid := D1.sk.laid ++ [.create s (D1.sk.made + 1)] } := rfl
    rw [r, e1]; rfl

theorem Dsk.size {W w : World} {a : Nat} {S : Sk} {own : Own} (h : Dsk W a S own w) (s : ByteArray) :
    Calls Tryz.prog 34 #[.pointer (some ⟨a, 0, none⟩), .string s] w fun e w' => e = .returned (sizeV (S.size s)) ∧ w = w' := by
  obtain ⟨D, hd, hok, rfl⟩ := h.out
  exact size_any own a D s w hd hok

theorem Dsk.read {W w : World} {a : Nat} {S : Sk} {own : Own} (h : Dsk W a S own w) (hF : S.Fine) (s : ByteArray) (hs : s.size ≤ maxLen) (off n : Int) :
    Calls Tryz.prog 41 #[.pointer (some ⟨a, 0, none⟩), .string s, .int .i64 off, .int .i64 n] w fun e w' => ∃ p c, e = .returned (.tuple #[.slice p (S.read s off n).1.length c, .int .i64 (S.read s off n).2]) ∧
      w'.ownsRow w.heap.size 5 1 (.slice p (S.read s off n).1.length c) (S.read s off n).1.length (cellsOf (S.read s off n).1) ∧ ((S.read s off n).2 ≠ 0 → p = none ∧ c = 0) ∧ Steps own own w w' ∧ Dsk W a S.tick own w' := by
  obtain ⟨D, hd, hok, rfl⟩ := h.out
  refine (read_any own a D s off n w hd hok hF.ops hF.left hs hF.short).mono ?_
  rintro e w' ⟨hst, hd', hc⟩
  obtain ⟨e1, e2⟩ := sk_begin D ((mayNumber off && mayNumber n) && mayName s)
  have hok1 := DiskA.begin_ok hok ((mayNumber off && mayNumber n) && mayName s)
  have hD := h.of_steps hst ⟨_, hd', hok1, e1⟩
  have e3 : (D.begin ((mayNumber off && mayNumber n) && mayName s)).1.seen = D.sk.seen := congrArg Sk.seen e1
  have e4 : (D.begin ((mayNumber off && mayNumber n) && mayName s)).1.cont = D.sk.cont := congrArg Sk.cont e1
  rw [e2, e3, e4] at hc
  unfold Sk.read
  rcases hc with ⟨h1, rfl⟩ | ⟨h1, h2, rfl⟩ | ⟨h1, h2, h3, k, h4, h5⟩
  · rw [if_pos h1]
    exact ⟨none, 0, rfl, World.ownsRow_nil _ _ _ _, fun _ => ⟨rfl, rfl⟩, hst, hD⟩
  · rw [if_neg (by rw [h1]; decide), h2]
    exact ⟨none, 0, rfl, World.ownsRow_nil _ _ _ _, fun _ => ⟨rfl, rfl⟩, hst, hD⟩
  · rw [if_neg (by rw [h1]; decide), h4]
    dsimp only
    rcases h5 with ⟨h6, rfl⟩ | ⟨h6, v, rfl, hown⟩
    · rw [if_pos h6]
      exact ⟨none, 0, rfl, World.ownsRow_nil _ _ _ _, fun _ => ⟨rfl, rfl⟩, hst, hD⟩
    · rw [if_neg (by omega)]
      dsimp only
      have hl : (((D.sk.cont k).seen.drop off.toNat).take n.toNat).length = n.toNat := by simp; omega
      rw [← hl] at hown
      have hsh : ∃ p c, v = .slice p (((D.sk.cont k).seen.drop off.toNat).take n.toNat).length c := by
        rcases hown.2 with ⟨h, h2⟩ | ⟨g, c, _, h, _⟩
        · exact ⟨none, 0, by rw [h, h2]⟩
        · exact ⟨_, c, h⟩
      obtain ⟨p, c, rfl⟩ := hsh
      rw [hl] at hown
      rw [hl]
      exact ⟨p, c, rfl, hown, fun h => absurd rfl h, hst, hD⟩
end Go.Proofs.YtldkeelgnfegeaaGreat
