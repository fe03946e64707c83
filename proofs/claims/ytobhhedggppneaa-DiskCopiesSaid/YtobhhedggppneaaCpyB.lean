/- The disk with its one file: writes, Copy, a crash, Remove. -/
import Derived.Test.YtobhhedggppneaaDskBE
import Derived.Test.YtobhhedggppneaaDskBF
import Derived.Test.YtobhhedggppneaaNmA
import Derived.Test.YtobhhedggppneaaSyA
import Derived.Test.YtobhhedggppneaaCpyA
namespace Go.Proofs.Ytobhhedggppneaa
open Go Go.RowKit Go.By

def fF : ByteArray := ⟨#[97]⟩
def noFile : FileA := ⟨[], [], []⟩

/-- The disk with its one file: bytes seen K, bytes that last K0, and the writes laid by. -/
structure SyD (W : World) (i a : Nat) (K K0 : List Nat) (ws : List (Nat × List Nat)) (kp : List (ByteArray × Nat)) (ld : List NameOp) (own : Own) (D : DiskA) (w : World) : Prop where
  disk : DiskIs w own a D
  ok : D.Ok
  far : ∀ k r, own k = some r → W.heap.size ≤ k
  below : Below W.heap.size W w
  left : D.left = 0
  ops : D.ops = i
  room : D.room = 1000
  seen : D.seen = [(fF, 1)]
  kept : D.kept = kp
  laid : D.laid = ld
  made : D.made = 1
  one : D.cont 1 = ⟨K, K0, writeOps ws⟩
  others : ∀ n, n ≠ 1 → D.cont n = noFile
  used : D.used = K.length
  few : ws.length ≤ i
  fit : ∀ p ∈ ws, p.1 + p.2.length ≤ 300
  short : K.length ≤ 300
  fm1 : ∀ j, (Mp.get D.fm j).isSome = true → j = 1

theorem SyD.stay {W w w' : World} {i a : Nat} {K K0 : List Nat} {ws : List (Nat × List Nat)} {kp : List (ByteArray × Nat)} {ld : List NameOp} {own : Own} {D : DiskA} (h : SyD W i a K K0 ws kp ld own D w) (hb : Below w.heap.size w w') : SyD W i a K K0 ws kp ld own D w' :=
  ⟨h.disk.beside (o1 := fun _ => none) (o2 := fun _ => none) (Steps.of_below hb) (fun _ _ _ => .inl rfl), h.ok, h.far, h.below.trans (hb.mono h.below.size), h.left, h.ops, h.room, h.seen, h.kept, h.laid, h.made, h.one, h.others, h.used, h.few, h.fit, h.short, h.fm1⟩

theorem fF_may : mayName fF = true := by decide +kernel
theorem num_may {off : Nat} (h : off ≤ 16777216) : mayNumber (off : Int) = true := by unfold mayNumber; simp; omega
theorem begun_ok {D : DiskA} (h : D.Ok) : ({ D with ops := D.ops + 1, left := 0 } : DiskA).Ok := ⟨h.seenIn, h.keptIn, h.laidIn, h.made⟩

/-- Behind a write. -/
def nextK (K : List Nat) (off : Nat) (b : List Nat) : List Nat := (redoWrite off b allBits b.length 0 0 K).1
def nextWs (ws : List (Nat × List Nat)) (off : Nat) (b : List Nat) : List (Nat × List Nat) := if b = [] then ws else ws ++ [(off, b)]
theorem nextK_at (K : List Nat) (off : Nat) (b : List Nat) (k : Nat) : atB (nextK K off b) k = if off ≤ k ∧ k < off + b.length then atB b (k - off) else atB K k := by
  unfold nextK
  by_cases h : 0 < b.length
  · exact (redoWrite_all b.length 0 0 K (by omega) h).1 k
  · have : b = [] := List.length_eq_zero_iff.1 (by omega)
    subst this
    rw [if_neg (by simp)]; rfl
theorem nextK_length (K : List Nat) (off : Nat) (b : List Nat) : (nextK K off b).length = if b = [] then K.length else max K.length (off + b.length) := by
  unfold nextK
  by_cases h : b = []
  · subst h; rfl
  · rw [if_neg h]
    exact (redoWrite_all b.length 0 0 K (by omega) (List.length_pos_iff.2 h)).2
theorem nextWs_fit {ws : List (Nat × List Nat)} {off : Nat} {b : List Nat} (h : ∀ p ∈ ws, p.1 + p.2.length ≤ 300) (hb : off + b.length ≤ 300) : ∀ p ∈ nextWs ws off b, p.1 + p.2.length ≤ 300 := by
  intro p hp
  unfold nextWs at hp
  split at hp
  · exact h p hp
  · rcases List.mem_append.1 hp with hp | hp
    · exact h p hp
    · rw [List.mem_singleton] at hp
      subst hp; exact hb
theorem nextWs_length (ws : List (Nat × List Nat)) (off : Nat) (b : List Nat) : (nextWs ws off b).length ≤ ws.length + 1 := by
  unfold nextWs; split
  · omega
  · simp

theorem SyD.write {W w : World} {i a : Nat} {K K0 : List Nat} {ws : List (Nat × List Nat)} {kp : List (ByteArray × Nat)} {ld : List NameOp} {own : Own} {D : DiskA} (h : SyD W i a K K0 ws kp ld own D w) (hi : i ≤ 100) {off : Nat} (ho : off ≤ 0) {bv : Value} {b : List Nat} (hb : Bytes w bv b) (hbl : b.length ≤ 300) (hbo : b ≠ [] → ∀ k, bv.ownBlock = some k → own k = none ∨ own k = some .ink) :
    Calls Try.prog 11 #[.pointer (some ⟨a, 0, none⟩), .string fF, .int .i64 (off : Int), bv] w fun e w' => e = .returned (.int .i64 0) ∧ ∃ own' D', Steps own own' w w' ∧ SyD W (i + 1) a (nextK K off b) K0 (nextWs ws off b) kp ld own' D' w' := by
  have hcont : ∀ n, (D.cont n).laid.length < 1000000 ∧ (D.cont n).seen.length ≤ 1099511627776 := fun n => by
    by_cases e : n = 1
    · subst e; rw [h.one]
      refine ⟨?_, ?_⟩
      · show (writeOps ws).length < _
        have := h.few; simp [writeOps]; omega
      · show K.length ≤ _
        have := h.short; omega
    · rw [h.others n e]; exact ⟨by decide, by decide⟩
  refine (write_any own a D fF (off : Int) bv b w h.disk h.ok (by have := h.ops; omega) (by rw [h.left]; omega) (by decide) (fun n => (hcont n).1) (by rw [h.room]; omega) (by rw [h.used]; have := h.short; omega) (fun n => (hcont n).2) hb hbo (by omega)).mono ?_
  rintro e w' ⟨own', hs, hc⟩
  rw [num_may (by omega), fF_may, Bool.true_and, begun0 h.left] at hc
  rcases hc with ⟨h1, _⟩ | ⟨_, h1, _⟩ | ⟨_, n, x, D2, h1, h2, rfl, hd⟩
  · exact absurd rfl h1
  · rw [show ({ D with ops := D.ops + 1, left := 0 } : DiskA).seen = [(fF, 1)] from h.seen] at h1; cases h1
  · rw [show ({ D with ops := D.ops + 1, left := 0 } : DiskA).seen = [(fF, 1)] from h.seen] at h1
    obtain rfl : 1 = n := by simpa [Mp.get] using h1
    obtain ⟨hbw, hf⟩ := far_steps h.far h.below hs hd.here
    have hlen := nextK_length K off b
    rcases h2 with ⟨rfl, rfl, rfl⟩ | ⟨hne, hr, _⟩ | ⟨hne, hr, rfl, rfl⟩
    · refine ⟨rfl, own', _, hs, hd, begun_ok h.ok, hf, hbw, rfl, ?_, h.room, h.seen, h.kept, h.laid, h.made, ?_, h.others, ?_, ?_, ?_, ?_, h.fm1⟩
      · show D.ops + 1 = i + 1
        have := h.ops; omega
      · show D.cont 1 = _
        rw [h.one]; rfl
      · show D.used = _
        rw [h.used]; rfl
      · have := h.few; show ws.length ≤ _; omega
      · exact h.fit
      · exact h.short
    · exfalso
      unfold DiskA.hasRoom at hr
      simp only [Bool.or_eq_false_iff, decide_eq_false_iff_not] at hr
      have := hr.2
      rw [show ({ D with ops := D.ops + 1, left := 0 } : DiskA).room = 1000 from h.room, show ({ D with ops := D.ops + 1, left := 0 } : DiskA).used = K.length from h.used] at this
      have := h.short
      omega
    · rw [if_neg hne] at hlen
      have hsh := h.short
      have hK : (({ D with ops := D.ops + 1, left := 0 } : DiskA).cont 1).alter (.write (off : Int).toNat b) = ⟨nextK K off b, K0, writeOps (ws ++ [(off, b)])⟩ := by
        show (D.cont 1).alter _ = _
        rw [h.one]
        unfold FileA.alter writeOps
        rw [List.map_append]
        rfl
      refine ⟨rfl, own', _, hs, hd, ?_, hf, hbw, rfl, ?_, h.room, h.seen, h.kept, h.laid, h.made, ?_, fun n hn => ?_, ?_, ?_, ?_, ?_, h.fm1⟩
      · exact DiskA.used_ok (DiskA.withFile_ok (begun_ok h.ok) _ _) _
      · show D.ops + 1 = i + 1
        have := h.ops; omega
      · show (if 1 = 1 then (({ D with ops := D.ops + 1, left := 0 } : DiskA).cont 1).alter (.write (off : Int).toNat b) else D.cont 1) = _
        rw [if_pos rfl, hK]
        unfold nextWs
        rw [if_neg hne]
      · show (if n = 1 then _ else D.cont n) = _
        rw [if_neg hn]; exact h.others n hn
      · show D.used + (({ D with ops := D.ops + 1, left := 0 } : DiskA).cont 1).more (.write (off : Int).toNat b) = _
        unfold FileA.more
        rw [hK, h.used]
        show (K.length : Int) + (((nextK K off b).length : Int) - ((D.cont 1).seen.length : Int)) = _
        rw [h.one]
        show (K.length : Int) + (((nextK K off b).length : Int) - (K.length : Int)) = _
        omega
      · have := h.few; have := nextWs_length ws off b; omega
      · exact nextWs_fit h.fit (by omega)
      · rw [hlen]; omega

theorem redoWrite_ix (off : Nat) (b : List Nat) : ∀ (fuel at_ i j : Nat) (l : List Nat), (redoWrite off b allBits fuel at_ i l).1 = (redoWrite off b allBits fuel at_ j l).1
  | 0, _, _, _, _ => rfl
  | fuel + 1, at_, i, j, l => by
    unfold redoWrite
    split
    · exact redoWrite_ix off b fuel _ (i + 1) (j + 1) _
    · rfl
/-- The bytes seen are the writes, done again on those that last. -/
def Redone (K K0 : List Nat) (ws : List (Nat × List Nat)) : Prop := K = (redoOps allBits (writeOps ws) 0 K0).1
theorem Redone.next {K K0 : List Nat} {ws : List (Nat × List Nat)} (h : Redone K K0 ws) (off : Nat) (b : List Nat) : Redone (nextK K off b) K0 (nextWs ws off b) := by
  unfold nextWs
  split
  · rename_i hb
    subst hb
    exact h
  · unfold Redone at h ⊢
    have : writeOps (ws ++ [(off, b)]) = writeOps ws ++ [.write off b] := by simp [writeOps]
    rw [this, redoOps_append]
    show nextK K off b = (redoWrite off b allBits b.length 0 _ (redoOps allBits (writeOps ws) 0 K0).1).1
    rw [← h]
    exact redoWrite_ix _ _ _ _ _ _ _

theorem SyD.start {W w : World} {a : Nat} {own : Own} (hd : DiskIs w own a (DiskA.new 1000)) (hf : ∀ k r, own k = some r → W.heap.size ≤ k) (hb : Below W.heap.size W w) :
    Calls Try.prog 10 #[.pointer (some ⟨a, 0, none⟩), .string fF] w fun e w' => e = .returned (.int .i64 0) ∧ ∃ own' D', SyD W 1 a [] [] [] [] [.create fF 1] own' D' w' := by
  have hok := DiskA.new_ok 1000
  refine (create_any own a (DiskA.new 1000) fF w hd hok (by show 0 < _; omega) (by show 0 < _; omega) (by decide) (by show 0 < _; omega) (by show 0 < _; omega)).mono ?_
  rintro e w' ⟨own', hs, hc⟩
  rw [fF_may, begun0 rfl] at hc
  rcases hc with ⟨h1, _⟩ | ⟨_, h1, _⟩ | ⟨_, _, rfl, fb, hd'⟩
  · exact absurd rfl h1
  · cases h1
  · obtain ⟨hbw, hfar⟩ := far_steps hf hb hs hd'.here
    refine ⟨rfl, own', _, hd', created_ok (begun_ok hok) _ _, hfar, hbw, rfl, rfl, rfl, rfl, rfl, rfl, rfl, rfl, fun n hn => ?_, rfl, Nat.zero_le _, fun p hp => (by cases hp), Nat.zero_le _, fun j hj => ?_⟩
    rotate_left
    · have hj' : (Mp.get (Mp.put [] 1 fb) j).isSome = true := hj
      rw [Mp.get_put] at hj'
      by_cases e : 1 = j
      · exact e.symm
      · rw [if_neg e] at hj'; cases hj'
    show (if n = 1 then (⟨[], [], []⟩ : FileA) else noFile) = _
    rw [if_neg hn]

theorem SyD.sync {W w : World} {i a : Nat} {K K0 : List Nat} {ws : List (Nat × List Nat)} {kp : List (ByteArray × Nat)} {ld : List NameOp} {own : Own} {D : DiskA} (h : SyD W i a K K0 ws kp ld own D w) (hi : i ≤ 100) (hr : Redone K K0 ws) :
    Calls Try.prog 12 #[.pointer (some ⟨a, 0, none⟩), .string fF] w fun e w' => e = .returned (.int .i64 0) ∧ ∃ own' D', Steps own own' w w' ∧ SyD W (i + 1) a K K [] kp ld own' D' w' := by
  have hcont : ∀ n, (D.cont n).laid.length ≤ 1000000 := fun n => by
    by_cases e : n = 1
    · subst e; rw [h.one]
      show (writeOps ws).length ≤ _
      have := h.few; simp [writeOps]; omega
    · rw [h.others n e]; decide
  refine (sync_any own a D fF w h.disk h.ok (by have := h.ops; omega) (by rw [h.left]; omega) (by decide) hcont).mono ?_
  rintro e w' ⟨own', hs, hc⟩
  rw [fF_may, begun0 h.left] at hc
  rcases hc with ⟨h1, _⟩ | ⟨_, h1, _⟩ | ⟨_, n, x, D2, h1, ⟨rfl, rfl⟩, rfl, hd⟩
  · exact absurd rfl h1
  · rw [show ({ D with ops := D.ops + 1, left := 0 } : DiskA).seen = [(fF, 1)] from h.seen] at h1; cases h1
  · rw [show ({ D with ops := D.ops + 1, left := 0 } : DiskA).seen = [(fF, 1)] from h.seen] at h1
    obtain rfl : 1 = n := by simpa [Mp.get] using h1
    obtain ⟨hbw, hf⟩ := far_steps h.far h.below hs hd.here
    refine ⟨rfl, own', _, hs, hd, DiskA.withFile_ok (begun_ok h.ok) _ _, hf, hbw, rfl, ?_, h.room, h.seen, h.kept, h.laid, h.made, ?_, fun n hn => ?_, h.used, Nat.zero_le _, fun p hp => (by cases hp), h.short, h.fm1⟩
    · show D.ops + 1 = i + 1
      have := h.ops; omega
    · show (if 1 = 1 then (D.cont 1).settle else D.cont 1) = _
      rw [if_pos rfl, h.one]
      unfold FileA.settle
      show (⟨K, (redoOps allBits (writeOps ws) 0 K0).1, []⟩ : FileA) = _
      rw [← hr]; rfl
    · show (if n = 1 then _ else D.cont n) = _
      rw [if_neg hn]; exact h.others n hn

theorem SyD.syncDir {W w : World} {i a : Nat} {K K0 : List Nat} {ws : List (Nat × List Nat)} {own : Own} {D : DiskA} (h : SyD W i a K K0 ws [] [.create fF 1] own D w) (hi : i ≤ 100) :
    Calls Try.prog 13 #[.pointer (some ⟨a, 0, none⟩)] w fun e w' => e = .returned (.int .i64 0) ∧ ∃ own' D', Steps own own' w w' ∧ SyD W (i + 1) a K K0 ws [(fF, 1)] [] own' D' w' := by
  refine (syncDir_any own a D w h.disk h.ok (by have := h.ops; omega) (by rw [h.left]; omega) (by rw [h.laid]; decide) (by rw [h.laid]; intro o ho; rw [List.mem_singleton] at ho; subst ho; rfl)).mono ?_
  rintro e w' hc
  unfold SyncedDir at hc
  rw [begun0 h.left] at hc
  rcases hc with ⟨_, _, h1, _⟩ | ⟨_, rfl, own', fm', hs, hd, hk⟩
  · exact absurd rfl h1
  · have hr : redoNames (({ D with ops := D.ops + 1, left := 0 } : DiskA).laid.take D.laid.length) ({ D with ops := D.ops + 1, left := 0 } : DiskA).kept = [(fF, 1)] := by
      show redoNames (D.laid.take D.laid.length) D.kept = _
      rw [List.take_length, h.laid, h.kept]; rfl
    obtain ⟨hbw, hf⟩ := far_steps h.far h.below hs hd.here
    refine ⟨rfl, own', _, hs, hd, ?_, hf, hbw, rfl, ?_, h.room, hr, hr, rfl, h.made, h.one, h.others, h.used, by have := h.few; omega, h.fit, h.short, fun j hj => h.fm1 j (by
      have hj' : (Mp.get fm' j).isSome = true := hj
      rw [hk j] at hj'
      split at hj'
      · exact hj'
      · cases hj')⟩
    · refine DiskA.settled_ok (begun_ok h.ok) hk (fun j hj => ?_)
      rw [hr] at hj
      obtain rfl : j = 1 := by simpa using hj
      exact h.ok.seenIn fF 1 (by rw [h.seen]; rfl)
    · show D.ops + 1 = i + 1
      have := h.ops; omega

theorem fm_single {fm : List (Nat × Nat)} (hnd : (fm.map (·.1)).Nodup) (h1 : (Mp.get fm 1).isSome = true) (h : ∀ j, (Mp.get fm j).isSome = true → j = 1) : ∃ fb, fm = [(1, fb)] := by
  match fm, hnd, h1, h with
  | [], _, h1, _ => cases h1
  | [(k, v)], _, _, h =>
    have hk : k = 1 := h k (by unfold Mp.get; rw [if_pos rfl]; rfl)
    exact ⟨v, by rw [hk]⟩
  | (k, v) :: (k', v') :: rest, hnd, _, h =>
    have hk : k = 1 := h k (by unfold Mp.get; rw [if_pos rfl]; rfl)
    have hk' : k' = 1 := h k' (by
      unfold Mp.get
      split
      · rfl
      · unfold Mp.get; rw [if_pos rfl]; rfl)
    simp [hk, hk'] at hnd

/-- Beside another's steps. -/
theorem SyD.beside {W w w' : World} {i a : Nat} {K K0 : List Nat} {ws : List (Nat × List Nat)} {kp : List (ByteArray × Nat)} {ld : List NameOp} {own o1 o2 : Own} {D : DiskA} (h : SyD W i a K K0 ws kp ld own D w) (hs : Steps o1 o2 w w') (hd : ∀ k r, own k = some r → o1 k = none ∨ o1 k = some .ink) (hb : Below W.heap.size W w') : SyD W i a K K0 ws kp ld own D w' :=
  ⟨h.disk.beside hs hd, h.ok, h.far, hb, h.left, h.ops, h.room, h.seen, h.kept, h.laid, h.made, h.one, h.others, h.used, h.few, h.fit, h.short, h.fm1⟩

/-- Copy: two disks that go their own ways. -/
theorem SyD.copy {W w : World} {i a : Nat} {K K0 : List Nat} {ws : List (Nat × List Nat)} {own : Own} {D : DiskA} (h : SyD W i a K K0 ws [(fF, 1)] [] own D w) (hi : i ≤ 100) (hK0 : K0.length ≤ 300) :
    Calls Try.prog 19 #[.pointer (some ⟨a, 0, none⟩)] w fun e w' => e = .returned (.pointer (some ⟨w.heap.size, 0, none⟩)) ∧ SyD W i a K K0 ws [(fF, 1)] [] own D w' ∧
      ∃ own' D', SyD W i w.heap.size K K0 ws [(fF, 1)] [] own' D' w' ∧ (∀ k r, own' k = some r → own k = none ∨ own k = some .ink) ∧ (∀ k r, own k = some r → own' k = none ∨ own' k = some .ink) := by
  have hget : (Mp.get D.fm 1).isSome = true := h.ok.seenIn fF 1 (by rw [h.seen]; rfl)
  have hnd : (D.fm.map (·.1)).Nodup := by
    obtain ⟨ms, mk, mf, lv, _, h2⟩ := h.disk.out
    rcases h2.files with ⟨_, e⟩ | ⟨b, _, _, hb⟩
    · rw [e]; simp
    · exact hb.2
  obtain ⟨fb, hfm⟩ := fm_single hnd hget h.fm1
  have hsz : (D.cont 1).seen.length ≤ 17592186044416 ∧ (D.cont 1).kept.length ≤ 17592186044416 ∧ (D.cont 1).laid.length ≤ 1000000 := by
    rw [h.one]
    refine ⟨?_, ?_, ?_⟩
    · show K.length ≤ _; have := h.short; omega
    · show K0.length ≤ _; omega
    · show (writeOps ws).length ≤ _; have := h.few; simp [writeOps]; omega
  refine (copy_any own a fb D w h.disk (by rw [h.seen]; simp) hfm h.laid hsz).mono ?_
  rintro e w' ⟨rfl, hb, own', fb', hd, hr⟩
  have hsd := h.stay hb
  have here := h.disk.here
  refine ⟨rfl, hsd, own', _, ⟨hd, ⟨fun s n hn => ?_, fun s n hn => ?_, fun s n hn => ?_, fun n hn => ?_⟩, fun k r hk => ?_, hsd.below, h.left, h.ops, h.room, h.seen, h.kept, h.laid, h.made, h.one, h.others, h.used, h.few, h.fit, h.short, fun j hj => ?_⟩, fun k r hk => ?_, fun k r hk => ?_⟩
  · have hn' : Mp.get D.seen s = some n := hn
    have := h.fm1 n (h.ok.seenIn s n hn')
    subst this
    rfl
  · have hn' : Mp.get D.kept s = some n := hn
    have := h.fm1 n (h.ok.keptIn s n hn')
    subst this
    rfl
  · have hn' : NameOp.create s n ∈ D.laid := hn
    rw [h.laid] at hn'; cases hn'
  · have hn' : (Mp.get [(1, fb')] n).isSome = true := hn
    have : n = 1 := by
      unfold Mp.get at hn'
      split at hn'
      · rename_i e; exact e.symm
      · cases hn'
    subst this
    show 1 ≤ D.made
    rw [h.made]; omega
  · rcases hr k r hk with ⟨e, _⟩ | ⟨e, _⟩
    · have := h.below.size; omega
    · exact h.far k _ e
  · have hj' : (Mp.get [(1, fb')] j).isSome = true := hj
    unfold Mp.get at hj'
    split at hj'
    · rename_i e; exact e.symm
    · cases hj'
  · rcases hr k r hk with ⟨e, _⟩ | ⟨e, _⟩
    · left
      cases hh : own k with
      | none => rfl
      | some q => have := here k q hh; omega
    · exact .inr e
  · cases hh : own' k with
    | none => exact .inl rfl
    | some q =>
      rcases hr k q hh with ⟨e, _⟩ | ⟨_, e⟩
      · have := here k r hk; omega
      · exact .inr (by rw [e])

/-- What is there behind the crash. -/
structure Left1 (W : World) (i a : Nat) (K0 S : List Nat) (ws : List (Nat × List Nat)) (own : Own) (D : DiskA) (w : World) : Prop where
  disk : DiskIs w own a D
  ok : D.Ok
  far : ∀ k r, own k = some r → W.heap.size ≤ k
  below : Below W.heap.size W w
  left : D.left = 0
  ops : D.ops = i
  seen : D.seen = [(fF, 1)]
  one : (D.cont 1).seen = S
  others : ∀ n, (D.cont n).seen.length ≤ 300
  more : K0.length ≤ S.length
  most : S.length ≤ 300
  at_ : ∀ k, ¬ coveredBy ws k → atB S k = atB K0 k
  used : D.used = S.length
  laid : D.laid = []

theorem SyD.crash {W w : World} {i a : Nat} {K K0 : List Nat} {ws : List (Nat × List Nat)} {own : Own} {D : DiskA} (h : SyD W i a K K0 ws [(fF, 1)] [] own D w) (hi : i ≤ 100) (hK0 : K0.length ≤ 300) {bv : Value} {bits : List Nat} (hb : Bytes w bv bits) (hbo : bits ≠ [] → ∀ k, bv.ownBlock = some k → own k = none) :
    Calls Try.prog 14 #[.pointer (some ⟨a, 0, none⟩), bv] w fun e w' => e = .returned (.tuple #[]) ∧ ∃ own' D', Steps own own' w w' ∧ Left1 W i a K0 (redoOps (drawBit bits) (writeOps ws) 0 K0).1 ws own' D' w' := by
  have hr : redoNames (D.laid.take (firstOf bits D.laid.length)) D.kept = [(fF, 1)] := by
    rw [h.laid, h.kept, List.take_nil]; rfl
  have hout := fun j => redoOps_out (bit := drawBit bits) (m := 300) ws j K0 h.fit
  refine (crash_any own a D bv bits w h.disk h.ok hb hbo (by rw [h.laid]; decide) (by rw [h.laid]; intro o ho; cases ho) ⟨fun n => ?_, fun n j => ?_⟩ (by rw [hr]; decide) (by rw [hr]; intro p hp; rw [List.mem_singleton] at hp; subst hp; decide)).mono ?_
  · by_cases e : n = 1
    · subst e; rw [h.one]
      show (writeOps ws).length ≤ _
      have := h.few; simp [writeOps]; omega
    · rw [h.others n e]; decide
  · by_cases e : n = 1
    · subst e; rw [h.one]
      have := (hout j).2.2
      show (redoOps (drawBit bits) (writeOps ws) j K0).1.length ≤ _
      omega
    · rw [h.others n e]; show 0 ≤ _; omega
  · rintro e w' ⟨rfl, own', fm', hs, hd, hok, _⟩
    obtain ⟨hbw, hf⟩ := far_steps h.far h.below hs hd.here
    have hn : namesOf [(fF, 1)] = [fF] := by
      unfold namesOf sortedNames
      rw [show ([(fF, 1)] : List (ByteArray × Nat)).map (fun p => p.1.data.toList) = [fF.data.toList] from rfl, List.mergeSort_singleton]
      rfl
    have hc : crashed bits D fm' = (crashFile bits ({ (({ D with left := 0 } : DiskA).settled (firstOf bits D.laid.length) fm') with used := 0 }, 0) fF).1 := by
      have hs2 : (({ D with left := 0 } : DiskA).settled (firstOf bits D.laid.length) fm').seen = [(fF, 1)] := hr
      unfold crashed
      dsimp only
      rw [hs2, hn]
      rfl
    have hg : (Mp.get (({ D with left := 0 } : DiskA).settled (firstOf bits D.laid.length) fm').seen fF).getD 0 = 1 := by
      rw [show (({ D with left := 0 } : DiskA).settled (firstOf bits D.laid.length) fm').seen = [(fF, 1)] from hr]; rfl
    have h1 : ∀ n, (crashed bits D fm').cont n = if n = 1 then ⟨(redoOps (drawBit bits) (writeOps ws) 0 K0).1, (redoOps (drawBit bits) (writeOps ws) 0 K0).1, []⟩ else D.cont n := fun n => by
      rw [hc]
      unfold crashFile
      dsimp only
      rw [hg]
      show (if n = 1 then (⟨(redoOps (drawBit bits) (D.cont 1).laid 0 (D.cont 1).kept).1, (redoOps (drawBit bits) (D.cont 1).laid 0 (D.cont 1).kept).1, []⟩ : FileA) else D.cont n) = _
      rw [h.one]
    obtain ⟨o1, o2, o3⟩ := hout 0
    refine ⟨rfl, own', _, hs, hd, hok, hf, hbw, ?_, ?_, ?_, ?_, fun n => ?_, o2, by omega, o1, ?_, ?_⟩
    · rw [hc]; rfl
    · rw [hc]
      exact h.ops
    · rw [hc]; exact hr
    · rw [h1, if_pos rfl]
    · rw [h1]
      split
      · show (redoOps (drawBit bits) (writeOps ws) 0 K0).1.length ≤ _
        omega
      · rename_i hne
        rw [h.others n hne]; decide
    · rw [hc]
      unfold crashFile
      dsimp only
      rw [hg]
      show (0 : Int) + ((redoOps (drawBit bits) (D.cont 1).laid 0 (D.cont 1).kept).1.length : Int) = _
      rw [h.one]
      show (0 : Int) + ((redoOps (drawBit bits) (writeOps ws) 0 K0).1.length : Int) = _
      omega
    · rw [hc]; rfl

theorem Left1.beside {W w w' : World} {i a : Nat} {K0 S : List Nat} {ws : List (Nat × List Nat)} {own o1 o2 : Own} {D : DiskA} (h : Left1 W i a K0 S ws own D w) (hs : Steps o1 o2 w w') (hd : ∀ k r, own k = some r → o1 k = none ∨ o1 k = some .ink) (hb : Below W.heap.size W w') : Left1 W i a K0 S ws own D w' :=
  ⟨h.disk.beside hs hd, h.ok, h.far, hb, h.left, h.ops, h.seen, h.one, h.others, h.more, h.most, h.at_, h.used, h.laid⟩

/-- Two disks that share ink alone. -/
structure Apart (o1 o2 : Own) : Prop where
  one : ∀ k r, o1 k = some r → o2 k = none ∨ o2 k = some .ink
  two : ∀ k r, o2 k = some r → o1 k = none ∨ o1 k = some .ink
theorem Apart.symm {o1 o2 : Own} (h : Apart o1 o2) : Apart o2 o1 := ⟨h.two, h.one⟩
theorem Apart.step {o1 o2 o2' : Own} {w w' : World} (h : Apart o1 o2) (hs : Steps o2 o2' w w') (here : ∀ k r, o1 k = some r → k < w.heap.size) : Apart o1 o2' := by
  refine ⟨fun k r hk => ?_, fun k r hk => ?_⟩
  · rw [hs.same k (here k r hk)]; exact h.one k r hk
  · cases hq : o1 k with
    | none => exact .inl rfl
    | some q =>
      rw [hs.same k (here k q hq)] at hk
      rcases h.two k r hk with e | e
      · rw [hq] at e; cases e
      · rw [hq] at e; exact .inr e

theorem Left1.size {W w : World} {i a : Nat} {K0 S : List Nat} {ws : List (Nat × List Nat)} {own : Own} {D : DiskA} (h : Left1 W i a K0 S ws own D w) :
    Calls Try.prog 15 #[.pointer (some ⟨a, 0, none⟩), .string fF] w fun e w' => e = .returned (.tuple #[.int .i64 (S.length : Nat), .bool true]) ∧ w = w' := by
  refine (size_any own a D fF w h.disk h.ok).mono ?_
  rintro e w' ⟨rfl, rfl⟩
  refine ⟨?_, rfl⟩
  have : D.size fF = some S.length := by
    unfold DiskA.size
    rw [h.seen]
    show some (D.cont 1).seen.length = _
    rw [h.one]
  rw [this]; rfl

theorem Left1.read {W w : World} {i a : Nat} {K0 S : List Nat} {ws : List (Nat × List Nat)} {own : Own} {D : DiskA} (h : Left1 W i a K0 S ws own D w) (hi : i ≤ 100) :
    Calls Try.prog 16 #[.pointer (some ⟨a, 0, none⟩), .string fF, .int .i64 0, .int .i64 (S.length : Nat)] w fun e w' => ∃ v, e = .returned (.tuple #[v, .int .i64 0]) ∧ w'.ownsRow w.heap.size 5 1 v S.length (cellsOf S) ∧ Below W.heap.size W w' ∧ Steps own own w w' ∧ ∃ D', Left1 W (i + 1) a K0 S ws own D' w' := by
  refine (read_any own a D fF 0 (S.length : Nat) w h.disk h.ok (by have := h.ops; omega) (by rw [h.left]; omega) (by decide) (fun n => by have := h.others n; omega)).mono ?_
  rintro e w' ⟨hs, hd, hc⟩
  have hm := h.most
  rw [show mayNumber 0 = true from num_may (off := 0) (by omega), num_may (by omega), fF_may, Bool.true_and, Bool.true_and, begun0 h.left] at hc hd
  have hseen : ({ D with ops := D.ops + 1, left := 0 } : DiskA).seen = [(fF, 1)] := h.seen
  obtain ⟨hbw, _⟩ := far_steps h.far h.below hs hd.here
  rcases hc with ⟨h1, _⟩ | ⟨_, h1, _⟩ | ⟨_, _, _, k, h1, h2⟩
  · exact absurd rfl h1
  · rw [hseen] at h1; cases h1
  · rw [hseen] at h1
    obtain rfl : 1 = k := by simpa [Mp.get] using h1
    rw [show (({ D with ops := D.ops + 1, left := 0 } : DiskA).cont 1).seen = S from h.one] at h2
    rcases h2 with ⟨h3, _⟩ | ⟨_, v, rfl, hown⟩
    · omega
    · refine ⟨v, rfl, ?_, hbw, hs, _, ⟨hd, begun_ok h.ok, h.far, hbw, rfl, by show D.ops + 1 = i + 1; have := h.ops; omega, h.seen, h.one, h.others, h.more, h.most, h.at_, h.used, h.laid⟩⟩
      have e : (S.drop (0 : Int).toNat).take ((S.length : Nat) : Int).toNat = S := by simp
      rw [e] at hown
      exact hown
end Go.Proofs.Ytobhhedggppneaa
namespace Go.Proofs.Ytobhhedggppneaa
open Go Go.RowKit Go.By

set_option maxRecDepth 100000 in
theorem alterRemove_any (own : Own) (a bs bf : Nat) (D : DiskA) (s : ByteArray) (w : World) (h : Tabled w own a bs bf D) (hl : D.laid.length < 1000000) :
    Calls Try.prog 25 #[.pointer (some ⟨a, 0, none⟩), nameV (.remove s)] w fun e w' => e = .returned (.tuple #[]) ∧ ∃ own', Tabled w' own' a bs bf { D with seen := Mp.del D.seen s, laid := D.laid ++ [.remove s] } ∧ Steps own own' w w' := by
  obtain ⟨hd, mk, lv, h1, h2, h3⟩ := h
  have g4 : w.cell? ⟨a, 4, none⟩ = some (.map (some bs)) := cells_of h1 4
  have hrs : own bs = some .seen ∧ Mp.Is w bs strV natV D.seen := by
    rcases h2.seen with ⟨h, _⟩ | ⟨b, h, hb, hm⟩
    · cases h
    · cases h; exact ⟨hb, hm⟩
  have hlt : a < w.heap.size := hd.here a _ hd.role
  have hne : bs ≠ a := by
    rintro rfl
    rw [hd.role] at hrs; cases hrs.1
  have HD := Lib.hid hd; have H1 := Lib.hid h1; have H2 := Lib.hid h2; have HR := Lib.hid hrs
  clear hd h1 h2 hrs
  obtain ⟨i0, hi, hz0, hz1, hz2⟩ := info_parts nameOpInfo
  have HI := Lib.hid hi; have Z0 := Lib.hid hz0; have Z1 := Lib.hid hz1; have Z2 := Lib.hid hz2
  clear hi hz0 hz1 hz2
  unfold nameV
  go_enter Try.func25, Try.ntmps25
  go_wp2_with fail
  refine (redoRemove_any s bs D.seen w HR.out.2).mono ?_
  rintro e w1 ⟨rfl, hm1, hg1⟩
  have q6 : w1.cell? ⟨a, 6, none⟩ = some lv := by
    rw [World.cell?_of_block (hg1.block a hlt (by simpa using fun h => hne h.symm))]; exact cells_of H1.out 6
  have HM1 := Lib.hid hm1; have HG1 := Lib.hid hg1
  have hlb : ∀ k, lv.ownBlock = some k → k < w.heap.size ∧ k ≠ bs ∧ k ≠ a := fun k hk => ⟨HD.out.here k _ (H2.out.laidR k hk), (by
    rintro rfl; have := H2.out.laidR k hk; rw [HR.out.1] at this; cases this), (by
    rintro rfl; have := H2.out.laidR k hk; rw [HD.out.role] at this; cases this)⟩
  have ho1 := ownsRow_of_heap H2.out.laid (w' := w1) fun k hk => hg1.block k (hlb k hk).1 (by simpa using (hlb k hk).2.1)
  have HO1 := Lib.hid ho1
  have HLB := Lib.hid hlb
  clear hm1 hg1 g4 ho1 hlb
  go_wp2_with (at_builtin; refine wpList_append_own_at _ rfl (.tmp 14) (.tmp 16) 54 rfl 0 93 i0 .nilFunc 1 8 nameOps HI.out Z0.out Z1.out Z2.out rfl (by decide) lv D.laid.length (D.laid.map nameV) rfl (HO1.out.alloc _) ⟨w1.heap.size, 0, none⟩ 1 1 [nameV (.remove s)] rfl rfl ?c1 ?c2 ?c3 ?c4 ?c5 ?c6)
  case c1 =>
    intro j u hu
    match j with
    | 0 => simp at hu; subst hu; exact World.cell?_alloc_new w1 _ _ 0
    | j + 1 => simp at hu
  case c2 => intro u hu; simp at hu; subst hu; rfl
  case c3 => unfold maxLen; omega
  case c4 => omega
  case c5 => omega
  intro v2 w2 hown hgrow _ hat
  obtain ⟨p2, c2, rfl⟩ : ∃ p c, v2 = .slice p (D.laid.length + 1) c := by
    rcases hown.2 with ⟨_, h⟩ | ⟨g, c, _, h, _⟩
    · omega
    · exact ⟨_, c, h⟩
  have z1 := HG1.out.size
  have q6' : w2.cell? ⟨a, 6, none⟩ = some lv := by
    rw [World.cell?_of_block (hgrow.block a (by simp; omega) (fun e => (HLB.out a e.symm).2.2 rfl)), World.cell?_alloc_lt _ _ _ (by simp; omega)]; exact q6
  have f6' : w2.frozen? ⟨a, 6, none⟩ = false := by
    rw [World.frozen?_of_block (hgrow.block a (by simp; omega) (fun e => (HLB.out a e.symm).2.2 rfl)), World.frozen?_alloc_old _ _ _ (by simp; omega), World.frozen?_of_block (HG1.out.block a hlt (by simpa using fun h => hne h.symm))]
    exact free_of H1.out 6
  have fin := laid_done HD.out H1.out H2.out h3 HR.out.1 HM1.out HG1.out hown hgrow (by simpa using hat)
  have FIN := Lib.hid fin
  clear fin hown hgrow hat q6
  go_wp2
  go_returns
  exact ⟨rfl, FIN.out⟩

/-- The file's bytes are not seen any more. -/
theorem DiskIs.emptied {own : Own} {a n fb : Nat} {D : DiskA} {w : World} (h : DiskIs w own a D) (hfb : Mp.get D.fm n = some fb) (u : Int) {W : World} (hh : W.heap = ((w.setCell ⟨a, 1, none⟩ (.int .i64 u)).setCell ⟨fb, 0, none⟩ (.slice none 0 0)).heap) (ho : W.os = w.os) (ht : W.tape = w.tape) (hp : W.output = w.output) :
    ∃ D', DiskIs W own a D' ∧ D'.seen = D.seen ∧ D'.laid = D.laid ∧ D'.kept = D.kept ∧ D'.fm = D.fm ∧ Steps own own w W := by
  obtain ⟨hd1, st1⟩ := h.set (D' := { D with used := u }) 1 (.int .i64 u) (fun ms mk mf lv _ hpp => ⟨ms, mk, mf, lv, rfl, parts_numbers hpp rfl rfl rfl rfl rfl⟩)
  generalize hw1 : w.setCell ⟨a, 1, none⟩ (.int .i64 u) = w1 at *
  obtain ⟨ms, mk, mf, lv, h1, h2⟩ := hd1.out
  obtain ⟨⟨sv, kv, lv', cs, f1, f2, f3, f4, f5, f6⟩, hr, hbf⟩ := h2.each n fb hfb
  have s0 := set_heap f1 0 (.slice none 0 0)
  have hfl : fb < w1.heap.size := hd1.here fb _ hr
  have hz : (w1.setCell ⟨fb, 0, none⟩ (.slice none 0 0)).heap.size = w1.heap.size := by simp
  have stay : Stay own own (fun r => r ≠ .file n) w1 (w1.setCell ⟨fb, 0, none⟩ (.slice none 0 0)) := ⟨fun _ _ h => h, fun k r hkr hne => s0.2 k (by rintro rfl; rw [hr] at hkr; cases hkr; exact hne rfl)⟩
  have hfile : FileIs (w1.setCell ⟨fb, 0, none⟩ (.slice none 0 0)) own n fb { D.cont n with seen := [] } :=
    ⟨⟨.slice none 0 0, kv, lv', cs, s0.1, RowV.nil _ _ _, f3.stay stay (by simp), ownsRow_of_heap f4 fun k hkr => stay.block k _ (f5 k hkr) (by simp), f5, f6.stay stay (by simp)⟩, hr,
      fun l hl h0 => (third_cell s0.1 (x := lv') (by simp) hl).trans (hbf lv' (by rw [cell_of_row w1 fb 2 _ _ _ f1]; rfl) h0)⟩
  have hst : FileStep n none own own w1 (w1.setCell ⟨fb, 0, none⟩ (.slice none 0 0)) := by
    refine ⟨⟨rfl, rfl, rfl, by rw [hz]; exact Nat.le_refl _, fun k hkl hn => ?_⟩, fun _ _ => rfl, fun _ _ h => h, fun k r hkr => .inl hkr⟩
    exact s0.2 k (by rintro rfl; exact hn (.inl ⟨_, hr, .inl rfl⟩))
  have hd2 := hd1.filed (F := { D.cont n with seen := [] }) hfb hfile hst (by simp)
  have st2 := st1.trans hst.steps
  have hW : Below (w1.setCell ⟨fb, 0, none⟩ (.slice none 0 0)).heap.size (w1.setCell ⟨fb, 0, none⟩ (.slice none 0 0)) W := ⟨ho.trans st2.os.symm, ht.trans st2.tape.symm, hp.trans st2.output.symm, by rw [hh]; exact Nat.le_refl _, fun k _ => by rw [hh]⟩
  exact ⟨_, hd2.beside (o1 := fun _ => none) (o2 := fun _ => none) (Steps.of_below hW) (fun _ _ _ => .inl rfl), rfl, rfl, rfl, rfl, st2.trans (Steps.of_below hW)⟩

set_option maxRecDepth 100000 in
theorem empty_any (own : Own) (a n fb : Nat) (D : DiskA) (s : ByteArray) (w : World) (h : DiskIs w own a D) (hg : Mp.get D.seen s = some n) (hfb : Mp.get D.fm n = some fb) (hu : -4611686018427387904 ≤ D.used ∧ D.used ≤ 4611686018427387904) (hsl : (D.cont n).seen.length ≤ 1099511627776) :
    Calls Try.prog 44 #[.pointer (some ⟨a, 0, none⟩), .string s] w fun e w' => e = .returned (.tuple #[]) ∧ ∃ D', DiskIs w' own a D' ∧ D'.seen = D.seen ∧ D'.laid = D.laid ∧ D'.kept = D.kept ∧ D'.fm = D.fm ∧ Steps own own w w' := by
  have HFIN := Lib.hid (fun (W : World) => h.emptied hfb (D.used - ((D.cont n).seen.length : Int)) (W := W))
  have hafb : a ≠ fb := by
    rintro rfl
    obtain ⟨ms, mk, mf, lv, _, h2⟩ := h.out
    have := (h2.each n a hfb).role
    rw [h.role] at this; cases this
  obtain ⟨ms, mk, mf, lv, h1, h2⟩ := h.out
  have hfile := h2.each n fb hfb
  obtain ⟨⟨sv, kv, lv', cs, f1, f2, f3, f4, f5, f6⟩, hr, hbf⟩ := hfile
  obtain ⟨p, c, rfl⟩ := owns_slice f2.owns
  have l1 := (h2.seen.look strK namesT (zeroInt w) s).1
  have l2 := (h2.files.look natK filesT (zeroFile w) n).2
  rw [hg] at l1
  rw [hfb] at l2
  unfold strV at l1
  simp only [Option.map_some, Option.getD_some, Option.isSome_some, natV, ptrV] at l1 l2
  have g1 := cells_of h1 1
  have g4 := cells_of h1 4
  have g8 := cells_of h1 8
  have q0 := cells_of f1 0
  unfold diskCells at g1 g4 g8
  simp only [List.getElem?_toArray, List.getElem?_cons_zero, List.getElem?_cons_succ] at g1 g4 g8 q0
  have fz := free_of h1
  have fz2 := free_of f1
  have hw : IntKind.i64.wrap (D.used - ((D.cont n).seen.length : Int)) = D.used - ((D.cont n).seen.length : Int) := IntWalk.i64_in _ (by omega)
  have H := Lib.hid h; have H1 := Lib.hid h1; have H2 := Lib.hid h2; have F1 := Lib.hid f1
  clear h h1 h2 f1 f2 f3 f4 f5 f6 hbf hr hg hfb
  go_enter Try.func44, Try.ntmps44
  go_wp2
  go_region
  go_wp2
  go_returns
  exact ⟨rfl, HFIN.out _ rfl rfl rfl rfl⟩

set_option maxRecDepth 100000 in
theorem remove_any (own : Own) (a : Nat) (D : DiskA) (s : ByteArray) (w : World) (h : DiskIs w own a D) (hk : D.Ok) (ho : D.ops < 4611686018427387904) (hl : D.left < 4611686018427387904) (hs : s.size ≤ maxLen)
    (hu : -4611686018427387904 ≤ D.used ∧ D.used ≤ 4611686018427387904) (hsl : ∀ n, (D.cont n).seen.length ≤ 1099511627776) (hll : D.laid.length < 1000000) :
    Calls Try.prog 20 #[.pointer (some ⟨a, 0, none⟩), .string s] w fun e w' => (∃ x, e = .returned (.int .i64 x)) ∧ ∃ own', Steps own own' w w' := by
  have hfind := find_any own a D s true w h hk ho hl hs
  rw [Bool.true_and] at hfind
  obtain ⟨D1, hD1⟩ : ∃ D1, D1 = (D.begin (mayName s)).1 := ⟨_, rfl⟩
  obtain ⟨err, herr⟩ : ∃ err, err = (D.begin (mayName s)).2 := ⟨_, rfl⟩
  have hsame := D.begin_same (mayName s)
  rw [← hD1] at hsame
  obtain ⟨_, _, e3, _, e5, _, e7, _⟩ := hsame
  rw [← hD1, ← herr] at hfind
  rw [← e7] at hu
  rw [← e5] at hsl
  rw [← e3] at hll
  have HF := Lib.hid hfind; have HU := Lib.hid hu; have HSL := Lib.hid hsl; have HLL := Lib.hid hll
  clear hfind h hk ho hl hD1 herr hu hsl hll e3 e5 e7
  go_enter Try.func20, Try.ntmps20
  go_wp2_with fail
  refine HF.out.mono ?_
  rintro e w1 ⟨hd, hst, ⟨he, rfl⟩ | ⟨rfl, hg, rfl⟩ | ⟨rfl, n, fb, hg, hfb, rfl⟩⟩
  · have HST := Lib.hid hst; clear hd hst
    go_wp2
    go_ret
    exact ⟨⟨_, rfl⟩, own, HST.out⟩
  · have HST := Lib.hid hst; clear hd hst hg
    go_wp2
    go_ret
    exact ⟨⟨_, rfl⟩, own, HST.out⟩
  · have HE := Lib.hid (empty_any own a n fb D1 s w1 hd hg hfb HU.out (HSL.out n))
    have HST := Lib.hid hst; have HG := Lib.hid hg
    clear hd hst hg hfb
    go_wp2_with fail
    refine HE.out.mono ?_
    rintro e w2 ⟨rfl, D2, hd2, e1, e2, _, _, hs2⟩
    obtain ⟨ms, mk, mf, lv, h1, h2⟩ := hd2.out
    have hne : mk ≠ .map none := fun e => by
      have := (h2.bare e).1
      rw [e1] at this
      have hg := HG.out
      rw [this] at hg; cases hg
    have hf := h2.full hne
    obtain ⟨bs, rfl⟩ : ∃ bs, ms = .map (some bs) := by
      rcases h2.seen with ⟨e, _⟩ | ⟨b, e, _⟩
      · exact absurd e hf.1
      · exact ⟨b, e⟩
    obtain ⟨bf, rfl⟩ : ∃ bf, mf = .map (some bf) := by
      rcases h2.files with ⟨e, _⟩ | ⟨b, e, _⟩
      · exact absurd e hf.2
      · exact ⟨b, e⟩
    have HA := Lib.hid (alterRemove_any own a bs bf D2 s w2 ⟨hd2, mk, lv, h1, h2, hne⟩ (by rw [e2]; exact HLL.out))
    have ST2 := Lib.hid (HST.out.trans hs2)
    clear hd2 h1 h2 hne hf hs2
    unfold nameV at HA
    go_wp2_with fail
    refine HA.out.mono ?_
    rintro e w3 ⟨rfl, own3, _, hs3⟩
    have ST3 := Lib.hid (ST2.out.trans hs3)
    clear hs3
    go_wp2
    go_ret
    exact ⟨⟨_, rfl⟩, own3, ST3.out⟩
end Go.Proofs.Ytobhhedggppneaa
