/- The law of what was synced: one file under one name; what writes, syncs and a crash do to it. -/
import Derived.Test.YtleikjmomkdhoaaDskBE
import Derived.Test.YtleikjmomkdhoaaDskBF
import Derived.Test.YtleikjmomkdhoaaNmA
import Derived.Test.YtleikjmomkdhoaaSyA
namespace Go.Proofs.Ytleikjmomkdhoaa
open Go Go.RowKit Go.By

def fF : ByteArray := ⟨#[102]⟩
def noFile : FileA := ⟨[], [], []⟩

/-- The disk with its one file: bytes seen K, bytes that last K0, and the writes laid by. -/
structure SyD (W : World) (i a : Nat) (K K0 : List Nat) (ws : List (Nat × List Nat)) (kp : List (ByteArray × Nat)) (ld : List NameOp) (own : Own) (D : DiskA) (w : World) : Prop where
  disk : DiskIs w own a D
  ok : D.Ok
  far : ∀ k r, own k = some r → W.heap.size ≤ k
  below : Below W.heap.size W w
  left : D.left = 0
  ops : D.ops ≤ i
  room : D.room = 1048576
  seen : D.seen = [(fF, 1)]
  kept : D.kept = kp
  laid : D.laid = ld
  made : D.made = 1
  one : D.cont 1 = ⟨K, K0, writeOps ws⟩
  others : ∀ n, n ≠ 1 → D.cont n = noFile
  used : D.used = K.length
  few : ws.length ≤ i
  fit : ∀ p ∈ ws, p.1 + p.2.length ≤ 1423
  short : K.length ≤ 1423

theorem SyD.stay {W w w' : World} {i a : Nat} {K K0 : List Nat} {ws : List (Nat × List Nat)} {kp : List (ByteArray × Nat)} {ld : List NameOp} {own : Own} {D : DiskA} (h : SyD W i a K K0 ws kp ld own D w) (hb : Below w.heap.size w w') : SyD W i a K K0 ws kp ld own D w' :=
  ⟨h.disk.beside (o1 := fun _ => none) (o2 := fun _ => none) (Steps.of_below hb) (fun _ _ _ => .inl rfl), h.ok, h.far, h.below.trans (hb.mono h.below.size), h.left, h.ops, h.room, h.seen, h.kept, h.laid, h.made, h.one, h.others, h.used, h.few, h.fit, h.short⟩

theorem fF_may : mayName fF = true := by decide +kernel
theorem num_may {off : Nat} (h : off ≤ 16777216) : mayNumber (off : Int) = true := by unfold mayNumber; simp; omega
theorem begun_ok {D : DiskA} (h : D.Ok) : ({ D with ops := D.ops + 1, left := 0 } : DiskA).Ok := ⟨h.seenIn, h.keptIn, h.laidIn, h.made⟩

/-- Behind a write. -/
def nextK (K : List Nat) (off : Nat) (b : List Nat) : List Nat := (redoWrite off b allBits b.length 0 0 K).1
def nextWs (ws : List (Nat × List Nat)) (off : Nat) (b : List Nat) : List (Nat × List Nat) := if b = [] then ws else ws ++ [(off, b)]
theorem nextK_at (K : List Nat) (off : Nat) (b : List Nat) (k : Nat) : atB (nextK K off b) k = if off ≤ k ∧ k < off + b.length then atB b (k - off) else atB K k := by
  unfold nextK
  by_cases h : 0 < b.length
  · exact (redoWrite_all b.length 0 0 K (by omega) h).1 k
  · have : b = [] := List.length_eq_zero_iff.1 (by omega)
    subst this
    rw [if_neg (by simp)]; rfl
theorem nextK_length (K : List Nat) (off : Nat) (b : List Nat) : (nextK K off b).length = if b = [] then K.length else max K.length (off + b.length) := by
  unfold nextK
  by_cases h : b = []
  · subst h; rfl
  · rw [if_neg h]
    exact (redoWrite_all b.length 0 0 K (by omega) (List.length_pos_iff.2 h)).2
theorem nextWs_fit {ws : List (Nat × List Nat)} {off : Nat} {b : List Nat} (h : ∀ p ∈ ws, p.1 + p.2.length ≤ 1423) (hb : off + b.length ≤ 1423) : ∀ p ∈ nextWs ws off b, p.1 + p.2.length ≤ 1423 := by
  intro p hp
  unfold nextWs at hp
  split at hp
  · exact h p hp
  · rcases List.mem_append.1 hp with hp | hp
    · exact h p hp
    · rw [List.mem_singleton] at hp
      subst hp; exact hb
theorem nextWs_length (ws : List (Nat × List Nat)) (off : Nat) (b : List Nat) : (nextWs ws off b).length ≤ ws.length + 1 := by
  unfold nextWs; split
  · omega
  · simp

theorem SyD.write {W w : World} {i a : Nat} {K K0 : List Nat} {ws : List (Nat × List Nat)} {kp : List (ByteArray × Nat)} {ld : List NameOp} {own : Own} {D : DiskA} (h : SyD W i a K K0 ws kp ld own D w) (hi : i ≤ 100) {off : Nat} (ho : off ≤ 1023) {bv : Value} {b : List Nat} (hb : Bytes w bv b) (hbl : b.length ≤ 400) (hbo : b ≠ [] → ∀ k, bv.ownBlock = some k → own k = none ∨ own k = some .ink) :
    Calls Try.prog 11 #[.pointer (some ⟨a, 0, none⟩), .string fF, .int .i64 (off : Int), bv] w fun e w' => e = .returned (.int .i64 0) ∧ ∃ own' D', Steps own own' w w' ∧ SyD W (i + 1) a (nextK K off b) K0 (nextWs ws off b) kp ld own' D' w' := by
  have hcont : ∀ n, (D.cont n).laid.length < 1000000 ∧ (D.cont n).seen.length ≤ 1099511627776 := fun n => by
    by_cases e : n = 1
    · subst e; rw [h.one]
      refine ⟨?_, ?_⟩
      · show (writeOps ws).length < _
        have := h.few; simp [writeOps]; omega
      · show K.length ≤ _
        have := h.short; omega
    · rw [h.others n e]; exact ⟨by decide, by decide⟩
  refine (write_any own a D fF (off : Int) bv b w h.disk h.ok (by have := h.ops; omega) (by rw [h.left]; omega) (by decide) (fun n => (hcont n).1) (by rw [h.room]; omega) (by rw [h.used]; have := h.short; omega) (fun n => (hcont n).2) hb hbo (by omega)).mono ?_
  rintro e w' ⟨own', hs, hc⟩
  rw [num_may (by omega), fF_may, Bool.true_and, begun0 h.left] at hc
  rcases hc with ⟨h1, _⟩ | ⟨_, h1, _⟩ | ⟨_, n, x, D2, h1, h2, rfl, hd⟩
  · exact absurd rfl h1
  · rw [show ({ D with ops := D.ops + 1, left := 0 } : DiskA).seen = [(fF, 1)] from h.seen] at h1; cases h1
  · rw [show ({ D with ops := D.ops + 1, left := 0 } : DiskA).seen = [(fF, 1)] from h.seen] at h1
    obtain rfl : 1 = n := by simpa [Mp.get] using h1
    obtain ⟨hbw, hf⟩ := far_steps h.far h.below hs hd.here
    have hlen := nextK_length K off b
    rcases h2 with ⟨rfl, rfl, rfl⟩ | ⟨hne, hr, _⟩ | ⟨hne, hr, rfl, rfl⟩
    · refine ⟨rfl, own', _, hs, hd, begun_ok h.ok, hf, hbw, rfl, ?_, h.room, h.seen, h.kept, h.laid, h.made, ?_, h.others, ?_, ?_, ?_, ?_⟩
      · show D.ops + 1 ≤ i + 1
        have := h.ops; omega
      · show D.cont 1 = _
        rw [h.one]; rfl
      · show D.used = _
        rw [h.used]; rfl
      · have := h.few; show ws.length ≤ _; omega
      · exact h.fit
      · exact h.short
    · exfalso
      unfold DiskA.hasRoom at hr
      simp only [Bool.or_eq_false_iff, decide_eq_false_iff_not] at hr
      have := hr.2
      rw [show ({ D with ops := D.ops + 1, left := 0 } : DiskA).room = 1048576 from h.room, show ({ D with ops := D.ops + 1, left := 0 } : DiskA).used = K.length from h.used] at this
      have := h.short
      omega
    · rw [if_neg hne] at hlen
      have hsh := h.short
      have hK : (({ D with ops := D.ops + 1, left := 0 } : DiskA).cont 1).alter (.write (off : Int).toNat b) = ⟨nextK K off b, K0, writeOps (ws ++ [(off, b)])⟩ := by
        show (D.cont 1).alter _ = _
        rw [h.one]
        unfold FileA.alter writeOps
        rw [List.map_append]
        rfl
      refine ⟨rfl, own', _, hs, hd, ?_, hf, hbw, rfl, ?_, h.room, h.seen, h.kept, h.laid, h.made, ?_, fun n hn => ?_, ?_, ?_, ?_, ?_⟩
      · exact DiskA.used_ok (DiskA.withFile_ok (begun_ok h.ok) _ _) _
      · show D.ops + 1 ≤ i + 1
        have := h.ops; omega
      · show (if 1 = 1 then (({ D with ops := D.ops + 1, left := 0 } : DiskA).cont 1).alter (.write (off : Int).toNat b) else D.cont 1) = _
        rw [if_pos rfl, hK]
        unfold nextWs
        rw [if_neg hne]
      · show (if n = 1 then _ else D.cont n) = _
        rw [if_neg hn]; exact h.others n hn
      · show D.used + (({ D with ops := D.ops + 1, left := 0 } : DiskA).cont 1).more (.write (off : Int).toNat b) = _
        unfold FileA.more
        rw [hK, h.used]
        show (K.length : Int) + (((nextK K off b).length : Int) - ((D.cont 1).seen.length : Int)) = _
        rw [h.one]
        show (K.length : Int) + (((nextK K off b).length : Int) - (K.length : Int)) = _
        omega
      · have := h.few; have := nextWs_length ws off b; omega
      · exact nextWs_fit h.fit (by omega)
      · rw [hlen]; omega

theorem redoWrite_ix (off : Nat) (b : List Nat) : ∀ (fuel at_ i j : Nat) (l : List Nat), (redoWrite off b allBits fuel at_ i l).1 = (redoWrite off b allBits fuel at_ j l).1
  | 0, _, _, _, _ => rfl
  | fuel + 1, at_, i, j, l => by
    unfold redoWrite
    split
    · exact redoWrite_ix off b fuel _ (i + 1) (j + 1) _
    · rfl
/-- The bytes seen are the writes, done again on those that last. -/
def Redone (K K0 : List Nat) (ws : List (Nat × List Nat)) : Prop := K = (redoOps allBits (writeOps ws) 0 K0).1
theorem Redone.next {K K0 : List Nat} {ws : List (Nat × List Nat)} (h : Redone K K0 ws) (off : Nat) (b : List Nat) : Redone (nextK K off b) K0 (nextWs ws off b) := by
  unfold nextWs
  split
  · rename_i hb
    subst hb
    exact h
  · unfold Redone at h ⊢
    have : writeOps (ws ++ [(off, b)]) = writeOps ws ++ [.write off b] := by simp [writeOps]
    rw [this, redoOps_append]
    show nextK K off b = (redoWrite off b allBits b.length 0 _ (redoOps allBits (writeOps ws) 0 K0).1).1
    rw [← h]
    exact redoWrite_ix _ _ _ _ _ _ _

theorem SyD.start {W w : World} {a : Nat} {own : Own} (hd : DiskIs w own a (DiskA.new 1048576)) (hf : ∀ k r, own k = some r → W.heap.size ≤ k) (hb : Below W.heap.size W w) :
    Calls Try.prog 10 #[.pointer (some ⟨a, 0, none⟩), .string fF] w fun e w' => e = .returned (.int .i64 0) ∧ ∃ own' D', SyD W 1 a [] [] [] [] [.create fF 1] own' D' w' := by
  have hok := DiskA.new_ok 1048576
  refine (create_any own a (DiskA.new 1048576) fF w hd hok (by show 0 < _; omega) (by show 0 < _; omega) (by decide) (by show 0 < _; omega) (by show 0 < _; omega)).mono ?_
  rintro e w' ⟨own', hs, hc⟩
  rw [fF_may, begun0 rfl] at hc
  rcases hc with ⟨h1, _⟩ | ⟨_, h1, _⟩ | ⟨_, _, rfl, fb, hd'⟩
  · exact absurd rfl h1
  · cases h1
  · obtain ⟨hbw, hfar⟩ := far_steps hf hb hs hd'.here
    refine ⟨rfl, own', _, hd', created_ok (begun_ok hok) _ _, hfar, hbw, rfl, Nat.le_refl _, rfl, rfl, rfl, rfl, rfl, rfl, fun n hn => ?_, rfl, Nat.zero_le _, fun p hp => (by cases hp), Nat.zero_le _⟩
    show (if n = 1 then (⟨[], [], []⟩ : FileA) else noFile) = _
    rw [if_neg hn]

theorem SyD.sync {W w : World} {i a : Nat} {K K0 : List Nat} {ws : List (Nat × List Nat)} {kp : List (ByteArray × Nat)} {ld : List NameOp} {own : Own} {D : DiskA} (h : SyD W i a K K0 ws kp ld own D w) (hi : i ≤ 100) (hr : Redone K K0 ws) :
    Calls Try.prog 12 #[.pointer (some ⟨a, 0, none⟩), .string fF] w fun e w' => e = .returned (.int .i64 0) ∧ ∃ own' D', Steps own own' w w' ∧ SyD W (i + 1) a K K [] kp ld own' D' w' := by
  have hcont : ∀ n, (D.cont n).laid.length ≤ 1000000 := fun n => by
    by_cases e : n = 1
    · subst e; rw [h.one]
      show (writeOps ws).length ≤ _
      have := h.few; simp [writeOps]; omega
    · rw [h.others n e]; decide
  refine (sync_any own a D fF w h.disk h.ok (by have := h.ops; omega) (by rw [h.left]; omega) (by decide) hcont).mono ?_
  rintro e w' ⟨own', hs, hc⟩
  rw [fF_may, begun0 h.left] at hc
  rcases hc with ⟨h1, _⟩ | ⟨_, h1, _⟩ | ⟨_, n, x, D2, h1, ⟨rfl, rfl⟩, rfl, hd⟩
  · exact absurd rfl h1
  · rw [show ({ D with ops := D.ops + 1, left := 0 } : DiskA).seen = [(fF, 1)] from h.seen] at h1; cases h1
  · rw [show ({ D with ops := D.ops + 1, left := 0 } : DiskA).seen = [(fF, 1)] from h.seen] at h1
    obtain rfl : 1 = n := by simpa [Mp.get] using h1
    obtain ⟨hbw, hf⟩ := far_steps h.far h.below hs hd.here
    refine ⟨rfl, own', _, hs, hd, DiskA.withFile_ok (begun_ok h.ok) _ _, hf, hbw, rfl, ?_, h.room, h.seen, h.kept, h.laid, h.made, ?_, fun n hn => ?_, h.used, Nat.zero_le _, fun p hp => (by cases hp), h.short⟩
    · show D.ops + 1 ≤ i + 1
      have := h.ops; omega
    · show (if 1 = 1 then (D.cont 1).settle else D.cont 1) = _
      rw [if_pos rfl, h.one]
      unfold FileA.settle
      show (⟨K, (redoOps allBits (writeOps ws) 0 K0).1, []⟩ : FileA) = _
      rw [← hr]; rfl
    · show (if n = 1 then _ else D.cont n) = _
      rw [if_neg hn]; exact h.others n hn

theorem SyD.syncDir {W w : World} {i a : Nat} {K K0 : List Nat} {ws : List (Nat × List Nat)} {own : Own} {D : DiskA} (h : SyD W i a K K0 ws [] [.create fF 1] own D w) (hi : i ≤ 100) :
    Calls Try.prog 13 #[.pointer (some ⟨a, 0, none⟩)] w fun e w' => e = .returned (.int .i64 0) ∧ ∃ own' D', Steps own own' w w' ∧ SyD W (i + 1) a K K0 ws [(fF, 1)] [] own' D' w' := by
  refine (syncDir_any own a D w h.disk h.ok (by have := h.ops; omega) (by rw [h.left]; omega) (by rw [h.laid]; decide) (by rw [h.laid]; intro o ho; rw [List.mem_singleton] at ho; subst ho; rfl)).mono ?_
  rintro e w' hc
  unfold SyncedDir at hc
  rw [begun0 h.left] at hc
  rcases hc with ⟨_, _, h1, _⟩ | ⟨_, rfl, own', fm', hs, hd, hk⟩
  · exact absurd rfl h1
  · have hr : redoNames (({ D with ops := D.ops + 1, left := 0 } : DiskA).laid.take D.laid.length) ({ D with ops := D.ops + 1, left := 0 } : DiskA).kept = [(fF, 1)] := by
      show redoNames (D.laid.take D.laid.length) D.kept = _
      rw [List.take_length, h.laid, h.kept]; rfl
    obtain ⟨hbw, hf⟩ := far_steps h.far h.below hs hd.here
    refine ⟨rfl, own', _, hs, hd, ?_, hf, hbw, rfl, ?_, h.room, hr, hr, rfl, h.made, h.one, h.others, h.used, by have := h.few; omega, h.fit, h.short⟩
    · refine DiskA.settled_ok (begun_ok h.ok) hk (fun j hj => ?_)
      rw [hr] at hj
      obtain rfl : j = 1 := by simpa using hj
      exact h.ok.seenIn fF 1 (by rw [h.seen]; rfl)
    · show D.ops + 1 ≤ i + 1
      have := h.ops; omega

/-- What is there behind the crash. -/
structure Left1 (W : World) (a : Nat) (K0 S : List Nat) (ws : List (Nat × List Nat)) (own : Own) (D : DiskA) (w : World) : Prop where
  disk : DiskIs w own a D
  ok : D.Ok
  far : ∀ k r, own k = some r → W.heap.size ≤ k
  below : Below W.heap.size W w
  left : D.left = 0
  ops : D.ops ≤ 200
  seen : D.seen = [(fF, 1)]
  one : (D.cont 1).seen = S
  others : ∀ n, (D.cont n).seen.length ≤ 1423
  more : K0.length ≤ S.length
  most : S.length ≤ 1423
  at_ : ∀ k, ¬ coveredBy ws k → atB S k = atB K0 k

theorem SyD.crash {W w : World} {i a : Nat} {K K0 : List Nat} {ws : List (Nat × List Nat)} {own : Own} {D : DiskA} (h : SyD W i a K K0 ws [(fF, 1)] [] own D w) (hi : i ≤ 100) (hK0 : K0.length ≤ 1423) {bv : Value} {bits : List Nat} (hb : Bytes w bv bits) (hbo : bits ≠ [] → ∀ k, bv.ownBlock = some k → own k = none) :
    Calls Try.prog 14 #[.pointer (some ⟨a, 0, none⟩), bv] w fun e w' => e = .returned (.tuple #[]) ∧ ∃ own' D' S, Steps own own' w w' ∧ Left1 W a K0 S ws own' D' w' := by
  have hr : redoNames (D.laid.take (firstOf bits D.laid.length)) D.kept = [(fF, 1)] := by
    rw [h.laid, h.kept, List.take_nil]; rfl
  have hout := fun j => redoOps_out (bit := drawBit bits) (m := 1423) ws j K0 h.fit
  refine (crash_any own a D bv bits w h.disk h.ok hb hbo (by rw [h.laid]; decide) (by rw [h.laid]; intro o ho; cases ho) ⟨fun n => ?_, fun n j => ?_⟩ (by rw [hr]; decide) (by rw [hr]; intro p hp; rw [List.mem_singleton] at hp; subst hp; decide)).mono ?_
  · by_cases e : n = 1
    · subst e; rw [h.one]
      show (writeOps ws).length ≤ _
      have := h.few; simp [writeOps]; omega
    · rw [h.others n e]; decide
  · by_cases e : n = 1
    · subst e; rw [h.one]
      have := (hout j).2.2
      show (redoOps (drawBit bits) (writeOps ws) j K0).1.length ≤ _
      omega
    · rw [h.others n e]; show 0 ≤ _; omega
  · rintro e w' ⟨rfl, own', fm', hs, hd, hok, _⟩
    obtain ⟨hbw, hf⟩ := far_steps h.far h.below hs hd.here
    have hn : namesOf [(fF, 1)] = [fF] := by
      unfold namesOf sortedNames
      rw [show ([(fF, 1)] : List (ByteArray × Nat)).map (fun p => p.1.data.toList) = [fF.data.toList] from rfl, List.mergeSort_singleton]
      rfl
    have hc : crashed bits D fm' = (crashFile bits ({ (({ D with left := 0 } : DiskA).settled (firstOf bits D.laid.length) fm') with used := 0 }, 0) fF).1 := by
      have hs2 : (({ D with left := 0 } : DiskA).settled (firstOf bits D.laid.length) fm').seen = [(fF, 1)] := hr
      unfold crashed
      dsimp only
      rw [hs2, hn]
      rfl
    have hg : (Mp.get (({ D with left := 0 } : DiskA).settled (firstOf bits D.laid.length) fm').seen fF).getD 0 = 1 := by
      rw [show (({ D with left := 0 } : DiskA).settled (firstOf bits D.laid.length) fm').seen = [(fF, 1)] from hr]; rfl
    have h1 : ∀ n, (crashed bits D fm').cont n = if n = 1 then ⟨(redoOps (drawBit bits) (writeOps ws) 0 K0).1, (redoOps (drawBit bits) (writeOps ws) 0 K0).1, []⟩ else D.cont n := fun n => by
      rw [hc]
      unfold crashFile
      dsimp only
      rw [hg]
      show (if n = 1 then (⟨(redoOps (drawBit bits) (D.cont 1).laid 0 (D.cont 1).kept).1, (redoOps (drawBit bits) (D.cont 1).laid 0 (D.cont 1).kept).1, []⟩ : FileA) else D.cont n) = _
      rw [h.one]
    obtain ⟨o1, o2, o3⟩ := hout 0
    refine ⟨rfl, own', _, (redoOps (drawBit bits) (writeOps ws) 0 K0).1, hs, hd, hok, hf, hbw, ?_, ?_, ?_, ?_, fun n => ?_, o2, by omega, o1⟩
    · rw [hc]; rfl
    · rw [hc]
      show D.ops ≤ 200
      have := h.ops; omega
    · rw [hc]; exact hr
    · rw [h1, if_pos rfl]
    · rw [h1]
      split
      · show (redoOps (drawBit bits) (writeOps ws) 0 K0).1.length ≤ _
        omega
      · rename_i hne
        rw [h.others n hne]; decide

theorem Left1.size {W w : World} {a : Nat} {K0 S : List Nat} {ws : List (Nat × List Nat)} {own : Own} {D : DiskA} (h : Left1 W a K0 S ws own D w) :
    Calls Try.prog 15 #[.pointer (some ⟨a, 0, none⟩), .string fF] w fun e w' => e = .returned (.tuple #[.int .i64 (S.length : Nat), .bool true]) ∧ w = w' := by
  refine (size_any own a D fF w h.disk h.ok).mono ?_
  rintro e w' ⟨rfl, rfl⟩
  refine ⟨?_, rfl⟩
  have : D.size fF = some S.length := by
    unfold DiskA.size
    rw [h.seen]
    show some (D.cont 1).seen.length = _
    rw [h.one]
  rw [this]; rfl

theorem Left1.read {W w : World} {a : Nat} {K0 S : List Nat} {ws : List (Nat × List Nat)} {own : Own} {D : DiskA} (h : Left1 W a K0 S ws own D w) :
    Calls Try.prog 16 #[.pointer (some ⟨a, 0, none⟩), .string fF, .int .i64 0, .int .i64 (S.length : Nat)] w fun e w' => ∃ v, e = .returned (.tuple #[v, .int .i64 0]) ∧ w'.ownsRow w.heap.size 5 1 v S.length (cellsOf S) ∧ Below W.heap.size W w' ∧ Steps own own w w' := by
  refine (read_any own a D fF 0 (S.length : Nat) w h.disk h.ok (by have := h.ops; omega) (by rw [h.left]; omega) (by decide) (fun n => by have := h.others n; omega)).mono ?_
  rintro e w' ⟨hs, hd, hc⟩
  have hm := h.most
  rw [show mayNumber 0 = true from num_may (off := 0) (by omega), num_may (by omega), fF_may, Bool.true_and, Bool.true_and, begun0 h.left] at hc
  have hseen : ({ D with ops := D.ops + 1, left := 0 } : DiskA).seen = [(fF, 1)] := h.seen
  obtain ⟨hbw, _⟩ := far_steps h.far h.below hs hd.here
  rcases hc with ⟨h1, _⟩ | ⟨_, h1, _⟩ | ⟨_, _, _, k, h1, h2⟩
  · exact absurd rfl h1
  · rw [hseen] at h1; cases h1
  · rw [hseen] at h1
    obtain rfl : 1 = k := by simpa [Mp.get] using h1
    rw [show (({ D with ops := D.ops + 1, left := 0 } : DiskA).cont 1).seen = S from h.one] at h2
    rcases h2 with ⟨h3, _⟩ | ⟨_, v, rfl, hown⟩
    · omega
    · refine ⟨v, rfl, ?_, hbw, hs⟩
      have e : (S.drop (0 : Int).toNat).take ((S.length : Nat) : Int).toNat = S := by simp
      rw [e] at hown
      exact hown
end Go.Proofs.Ytleikjmomkdhoaa
