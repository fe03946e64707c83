/- The disk: names that last: settle. -/
import Derived.Test.YtobhhedggppneaaDskX
namespace Go.Proofs.Ytobhhedggppneaa
open Go Go.RowKit Go.By

/-- How many entries are still to come. -/
def leftIn (w : World) (r b : Nat) : Nat := match w.heap[r]?, w.heap[b]? with
  | some (.mapIter _ _ seen _), some (.map es _) => (leftOf es seen).size
  | _, _ => 0
theorem leftIn_of {w : World} {b r : Nat} {es : Array MapEntry} {clock : Nat} {seen : Array Nat} (h : Mp.Ranged w b r es clock seen) : leftIn w r b = (leftOf es seen).size := by
  unfold leftIn; rw [h.iter, h.map]

/-- The table of files that have a name, as it is filled. -/
structure Naming (W : World) (bs bn r : Nat) (es : Array MapEntry) (clock : Nat) (K : List (ByteArray × Nat)) (fm : List (Nat × Nat)) (seen : Array Nat) (wr : World) : Prop where
  rng : Mp.Ranged wr bs r es clock seen
  ns : ∃ ns, Mp.Is wr bn natV ptrV ns ∧ (∀ j, (∃ i s, K[i]? = some (s, j) ∧ Mp.came es seen i) → Mp.get ns j = Mp.get fm j) ∧ (∀ j, (¬ ∃ i s, K[i]? = some (s, j) ∧ Mp.came es seen i) → Mp.get ns j = none)
  below : Below bn W wr

theorem Naming.start {W W5 W6 : World} {bs bn r : Nat} {es : Array MapEntry} {clock : Nat} {K : List (ByteArray × Nat)} {fm : List (Nat × Nat)} (hb : W.heap[bs]? = some (.map es clock)) (h5 : W5 = W.alloc (.map #[] 0)) (h6 : W6 = W5.alloc (.mapIter (some bs) clock #[] clock)) (hn : bn = W.heap.size) (hr : r = W5.heap.size) :
    Naming W bs bn r es clock K fm #[] W6 := by
  subst hn hr
  have hbl : bs < W.heap.size := (Array.getElem?_eq_some_iff.1 hb).1
  have z5 : W5.heap.size = W.heap.size + 1 := by rw [h5]; simp
  have k5 : ∀ j, j < W.heap.size → W6.heap[j]? = W.heap[j]? := fun j hj => by
    rw [h6, Below.heap_alloc _ _ _ (by omega), h5, Below.heap_alloc _ _ _ hj]
  have i5 : Mp.Is W6 W.heap.size natV ptrV ([] : List (Nat × Nat)) := by
    have := Mp.Is.made W natV ptrV
    rw [← h5] at this
    exact this.of_heap (by rw [h6, Below.heap_alloc _ _ _ (by omega)])
  refine ⟨⟨(k5 bs hbl).trans hb, by rw [h6]; exact heap_alloc_new W5 _⟩, ⟨[], i5, fun j hj => ?_, fun _ _ => rfl⟩, ⟨by rw [h6, h5]; rfl, by rw [h6, h5]; rfl, by rw [h6, h5]; rfl, by rw [h6, h5]; simp; omega, k5⟩⟩
  obtain ⟨i, s, _, e, _, he⟩ := hj
  simp at he

theorem Naming.leave {W wr : World} {bs bn r : Nat} {es : Array MapEntry} {clock : Nat} {K : List (ByteArray × Nat)} {fm : List (Nat × Nat)} {seen : Array Nat} (h : Naming W bs bn r es clock K fm seen wr) (hall : ∀ i, i < K.length → Mp.came es seen i) :
    ∃ fm', Kept fm K fm' ∧ Mp.Is wr bn natV ptrV fm' := by
  obtain ⟨ns, h1, h2, h3⟩ := h.ns
  refine ⟨ns, fun j => ?_, h1⟩
  by_cases hj : j ∈ K.map (·.2)
  · rw [if_pos hj]
    obtain ⟨p, hp, rfl⟩ := List.mem_map.1 hj
    obtain ⟨i, hi, rfl⟩ := List.getElem_of_mem hp
    exact h2 _ ⟨i, K[i].1, List.getElem?_eq_getElem hi, hall i hi⟩
  · rw [if_neg hj]
    refine h3 j ?_
    rintro ⟨i, s, hs, _⟩
    exact hj (List.mem_map.2 ⟨(s, j), List.mem_of_getElem? hs, rfl⟩)

/-- One file more is laid into the table. -/
theorem Naming.step {W wr W7 W8 : World} {bs bn r i fb : Nat} {p : ByteArray × Nat} {e : MapEntry} {es : Array MapEntry} {clock : Nat} {K : List (ByteArray × Nat)} {fm : List (Nat × Nat)} {seen : Array Nat} (h : Naming W bs bn r es clock K fm seen wr) (hnd : (es.toList.map (·.born)).Nodup)
    {ns : List (Nat × Nat)} (h2 : ∀ j, (∃ i s, K[i]? = some (s, j) ∧ Mp.came es seen i) → Mp.get ns j = Mp.get fm j) (h3 : ∀ j, (¬ ∃ i s, K[i]? = some (s, j) ∧ Mp.came es seen i) → Mp.get ns j = none)
    (hp : K[i]? = some p) (he : es[i]? = some e) (hfb : Mp.get fm p.2 = some fb) (h7 : ∀ k, k ≠ r → W7.heap[k]? = wr.heap[k]?) (hz : W7.heap.size = wr.heap.size) (ho : W7.os = wr.os ∧ W7.tape = wr.tape ∧ W7.output = wr.output) (hR : Mp.Ranged W7 bs r es clock (seen.push e.born)) (hrb : bn < r) (hsb : bs < bn)
    (h8 : Mp.Is W8 bn natV ptrV (Mp.put ns p.2 fb)) (hg : W7.grownBy W8 (some bn)) :
    Naming W bs bn r es clock K fm (seen.push e.born) W8 := by
  have hlt : r < W7.heap.size := (Array.getElem?_eq_some_iff.1 hR.iter).1
  have hput : ∀ j, Mp.get (Mp.put ns p.2 fb) j = if p.2 = j then some fb else Mp.get ns j := fun j => Mp.get_put ns p.2 j fb
  refine ⟨⟨(hg.block bs (by omega) (by simp; omega)).trans hR.map, (hg.block r hlt (by simp; omega)).trans hR.iter⟩, ⟨Mp.put ns p.2 fb, h8, fun j hj => ?_, fun j hj => ?_⟩, ⟨hg.os.trans (ho.1.trans h.below.os), hg.tape.trans (ho.2.1.trans h.below.tape), hg.output.trans (ho.2.2.trans h.below.output), ?_, fun k hk => ?_⟩⟩
  · rw [hput]
    by_cases hpj : p.2 = j
    · rw [if_pos hpj, ← hpj, hfb]
    · rw [if_neg hpj]
      obtain ⟨i', s, hs, hc⟩ := hj
      rcases (Mp.came_push hnd he i').1 hc with hc | rfl
      · exact h2 j ⟨i', s, hs, hc⟩
      · rw [hp] at hs; cases hs; exact absurd rfl hpj
  · rw [hput]
    by_cases hpj : p.2 = j
    · exact absurd ⟨i, p.1, by rw [hp, ← hpj], (Mp.came_push hnd he i).2 (.inr rfl)⟩ hj
    · rw [if_neg hpj]
      refine h3 j ?_
      rintro ⟨i', s, hs, hc⟩
      exact hj ⟨i', s, hs, (Mp.came_push hnd he i').2 (.inl hc)⟩
  · have := h.below.size; have := hg.size; omega
  · exact (hg.block k (by omega) (by simp; omega)).trans ((h7 k (by omega)).trans (h.below.block k hk))

/-- What stands behind settle, where there are tables. -/
structure SettledSome (w w' : World) (a bk : Nat) (D : DiskA) (n : Nat) : Prop where
  out : ∃ fm' bs bn, Kept D.fm (redoNames (D.laid.take n) D.kept) fm' ∧ Mp.Is w' bk strV natV (redoNames (D.laid.take n) D.kept) ∧ Mp.Is w' bs strV natV (redoNames (D.laid.take n) D.kept) ∧ Mp.Is w' bn natV ptrV fm' ∧
    w.heap.size ≤ bs ∧ w.heap.size ≤ bn ∧ bs ≠ bn ∧ w'.heap[a]? = some (.cells (diskCells D (.map (some bs)) (.map (some bk)) (.slice none 0 0) (.map (some bn))) 58 (0, 0))
  os : w'.os = w.os
  tape : w'.tape = w.tape
  output : w'.output = w.output
  size : w.heap.size ≤ w'.heap.size
  block : ∀ k, k < w.heap.size → k ≠ a → k ≠ bk → w'.heap[k]? = w.heap[k]?

set_option maxRecDepth 100000 in
set_option maxHeartbeats 2000000 in
theorem settle_some (own : Own) (a n : Nat) (D : DiskA) (w : World) (h : DiskIs w own a D) {ms lv mf : Value} {bk : Nat} (h1 : w.heap[a]? = some (.cells (diskCells D ms (.map (some bk)) lv mf) 58 (0, 0))) (h2 : Parts w own ms (.map (some bk)) mf lv D)
    (hn : n ≤ D.laid.length) (hlen : D.laid.length < 1000000) (ht : ∀ o ∈ D.laid, o.told = true) (hin : ∀ j ∈ (redoNames (D.laid.take n) D.kept).map (·.2), (Mp.get D.fm j).isSome = true) :
    Calls Try.prog 35 #[.pointer (some ⟨a, 0, none⟩), .int .i64 n] w fun e w' => e = .returned (.tuple #[]) ∧ SettledSome w w' a bk D n := by
  have hlt : a < w.heap.size := h.here a _ h.role
  obtain ⟨hrk, hmk⟩ : own bk = some .kept ∧ Mp.Is w bk strV natV D.kept := by
    rcases h2.kept with ⟨hh, _⟩ | ⟨b, hh, hb, hm⟩
    · cases hh
    · cases hh; exact ⟨hb, hm⟩
  have hka : bk ≠ a := by rintro rfl; rw [h.role] at hrk; cases hrk
  obtain ⟨p, c, hlv, hlc, hcell⟩ : ∃ p c, lv = .slice p D.laid.length c ∧ D.laid.length ≤ c ∧ ∀ k o, D.laid[k]? = some o → ∃ g, p = some ⟨g, 0, none⟩ ∧ own g = some .laid ∧ w.cell? ⟨g, k, none⟩ = some (nameV o) := by
    have ho := h2.laid
    rcases ho.2 with ⟨h, h0⟩ | ⟨g, c, cur, h, _, hg, hc, _⟩
    · exact ⟨none, 0, by rw [h, h0], by omega, fun k o hk => by rw [List.eq_nil_of_length_eq_zero h0] at hk; cases hk⟩
    · refine ⟨_, c, h, hc, fun k o hk => ⟨g, rfl, h2.laidR g (by rw [h]; rfl), ?_⟩⟩
      have := ho.cells (g := g) (by rw [h]; rfl) k (nameV o) (by rw [List.getElem?_map, hk]; rfl)
      rw [Addr.add_lit, Nat.zero_add] at this
      exact this
  subst hlv
  have c5 : w.cell? ⟨a, 5, none⟩ = some (.map (some bk)) := cells_of h1 5
  have c6 : w.cell? ⟨a, 6, none⟩ = some (.slice p D.laid.length c) := cells_of h1 6
  have hup := upto_runN p D.laid.length c n (by omega)
  have H := Lib.hid h; have H1 := Lib.hid h1; have H2 := Lib.hid h2; have HC := Lib.hid hcell; have HT := Lib.hid ht; have HIN := Lib.hid hin; have HMK := Lib.hid hmk; have HRK := Lib.hid hrk; have HKA := Lib.hid hka
  clear h h1 h2 hcell ht hin hmk hrk hka
  go_enter Try.func35, Try.ntmps35
  go_wp2
  clear hup c5 c6
  have h0 : KeptTo w w (.map (some bk)) own D.kept := ⟨.inr ⟨bk, rfl, HRK.out, HMK.out⟩, rfl, rfl, rfl, Nat.le_refl _, fun _ _ _ => rfl⟩
  have H0 := Lib.hid h0; clear h0
  go_loopw [16] (fun i wr => ∃ k : Nat, k ≤ n ∧ i = .int .i64 k ∧ KeptTo w wr (.map (some bk)) own (redoNames (D.laid.take k) D.kept)) (fun i _ => n - (intOf i).toNat)
  case atStart => exact ⟨0, by omega, rfl, H0.out⟩
  case round =>
    obtain ⟨k, hk, rfl, hkt⟩ := hrel
    clear H0
    by_cases hkn : k < n
    · have hko : k < D.laid.length := by omega
      obtain ⟨g, rfl, hgr, hcg⟩ := HC.out k _ (List.getElem?_eq_getElem hko)
      have hgb : g ≠ bk := by rintro rfl; rw [HRK.out] at hgr; cases hgr
      have hgl : g < w.heap.size := H.out.here g _ hgr
      have q1 : wr.cell? ⟨g, k, none⟩ = some (nameV D.laid[k]) := (World.cell?_of_block (hkt.block g hgl (by intro e; cases e; exact hgb rfl))).trans hcg
      have q5 : wr.cell? ⟨a, 5, none⟩ = some (.map (some bk)) := (World.cell?_of_block (hkt.block a hlt (by intro e; cases e; exact HKA.out rfl))).trans (cells_of H1.out 5)
      have hmr : Mp.Is wr bk strV natV (redoNames (D.laid.take k) D.kept) := by
        rcases hkt.map with ⟨hh, _⟩ | ⟨b, hh, _, hm⟩
        · cases hh
        · cases hh; exact hm
      obtain ⟨fid, recv, hv, henter, hcall⟩ := redoName_any D.laid[k] (HT.out _ (List.getElem_mem hko)) bk _ wr hmr
      rw [hv] at q1
      have hsn : redoNames (D.laid.take (k + 1)) D.kept = redoName D.laid[k] (redoNames (D.laid.take k) D.kept) := by
        rw [List.take_succ_eq_append_getElem hko, redoNames_snoc]
      have HSN := Lib.hid hsn; have HCALL := Lib.hid hcall; have HKT := Lib.hid hkt
      have hkn' : (k : Int) < n := by omega
      have hkl : (k : Int) < D.laid.length := by omega
      clear hsn hcall hkt hcg hmr hv hgb hgl hgr
      go_wp2_with fail
      refine HCALL.out.mono ?_
      rintro e w2 ⟨rfl, hm2, hg2⟩
      have hkt2 := HKT.out.step HRK.out hm2 hg2
      have HKT2 := Lib.hid hkt2
      clear hm2 hg2 hkt2 henter
      go_wp2
      go_roundw
      case rel => exact ⟨k + 1, by omega, by go_num, by rw [HSN.out]; exact HKT2.out⟩
      case measure => simp [intOf]; omega
    · obtain rfl : k = n := by omega
      have a1 : wr.heap[a]? = some (.cells (diskCells D ms (.map (some bk)) (.slice p D.laid.length c) mf) 58 (0, 0)) := (hkt.block a hlt (by intro e; cases e; exact HKA.out rfl)).trans H1.out
      have s6 := set_heap a1 6 (.slice none 0 0)
      have q6 : wr.cell? ⟨a, 6, none⟩ = some (.slice p D.laid.length c) := cells_of a1 6
      have q5 : wr.cell? ⟨a, 5, none⟩ = some (.map (some bk)) := cells_of a1 5
      have q4 : wr.cell? ⟨a, 4, none⟩ = some ms := cells_of a1 4
      have f6 := free_of a1 6
      have hmr : Mp.Is wr bk strV natV (redoNames (D.laid.take k) D.kept) := by
        rcases hkt.map with ⟨hh, _⟩ | ⟨b, hh, _, hm⟩
        · cases hh
        · cases hh; exact hm
      obtain ⟨⟨es, clock, hes, hlies, hborn, hnd⟩, hkn2⟩ := hmr
      have hm2 : (wr.setCell ⟨a, 6, none⟩ (.slice none 0 0)).heap[bk]? = some (.map es clock) := (s6.2 bk HKA.out).trans hes
      have HKT := Lib.hid hkt; have HM2 := Lib.hid hm2; have S6 := Lib.hid s6; have HES := Lib.hid hes; have HLI := Lib.hid hlies; have HBO := Lib.hid hborn; have HND := Lib.hid hnd; have HKN := Lib.hid hkn2
      clear hkt a1 s6 hes hlies hborn hnd hkn2 hm2
      go_wp2_with fail
      refine (cloneMap_any bk es clock _ HM2.out).mono ?_
      rintro e W3 ⟨rfl, hW3⟩
      -- what stands behind the clone
      obtain ⟨bs, hbs⟩ : ∃ bs, bs = (wr.setCell ⟨a, 6, none⟩ (.slice none 0 0)).heap.size := ⟨_, rfl⟩
      rw [← hbs]
      have hbw : w.heap.size ≤ bs := by rw [hbs]; have := HKT.out.size; simpa using this
      have z3 : W3.heap.size = bs + 1 := by rw [hW3, hbs]; simp
      have m3 : W3.heap[bs]? = some (.map es clock) := by rw [hW3, hbs]; exact heap_alloc_new _ _
      have l3 : ∀ j, j < bs → W3.heap[j]? = (wr.setCell ⟨a, 6, none⟩ (.slice none 0 0)).heap[j]? := fun j hj => by rw [hW3]; exact Below.heap_alloc _ _ _ (by omega)
      have hbkl : bk < bs := by
        have := (Array.getElem?_eq_some_iff.1 HM2.out).1
        omega
      have a3 : W3.heap[a]? = some (.cells (diskCells D ms (.map (some bk)) (.slice none 0 0) mf) 58 (0, 0)) := (l3 a (by omega)).trans S6.out.1
      have k3 : W3.heap[bk]? = some (.map es clock) := (l3 bk hbkl).trans HM2.out
      have b3 : ∀ j, j < w.heap.size → j ≠ a → j ≠ bk → W3.heap[j]? = w.heap[j]? := fun j hj h1 h2 => (l3 j (by omega)).trans ((S6.out.2 j h1).trans (HKT.out.block j hj (by intro e; cases e; exact h2 rfl)))
      have o3 : W3.os = w.os ∧ W3.tape = w.tape ∧ W3.output = w.output := by rw [hW3]; exact ⟨HKT.out.os, HKT.out.tape, HKT.out.output⟩
      -- the names as they are seen
      have s4 := set_heap a3 4 (.map (some bs))
      have t4 : W3.cell? ⟨a, 4, none⟩ = some ms := cells_of a3 4
      have g4 := free_of a3 4
      obtain ⟨W4, hW4⟩ : ∃ W4, W4 = W3.setCell ⟨a, 4, none⟩ (.map (some bs)) := ⟨_, rfl⟩
      rw [← hW4] at s4
      have z4 : W4.heap.size = bs + 1 := by rw [hW4]; simpa using z3
      have m4 : W4.heap[bs]? = some (.map es clock) := (s4.2 bs (by omega)).trans m3
      have k4 : W4.heap[bk]? = some (.map es clock) := (s4.2 bk HKA.out).trans k3
      have b4 : ∀ j, j < w.heap.size → j ≠ a → j ≠ bk → W4.heap[j]? = w.heap[j]? := fun j hj h1 h2 => (s4.2 j h1).trans (b3 j hj h1 h2)
      have o4 : W4.os = w.os ∧ W4.tape = w.tape ∧ W4.output = w.output := by rw [hW4]; exact o3
      obtain ⟨W5, hW5⟩ : ∃ W5, W5 = W4.alloc (.map #[] 0) := ⟨_, rfl⟩
      obtain ⟨W6, hW6⟩ : ∃ W6, W6 = W5.alloc (.mapIter (some bs) clock #[] clock) := ⟨_, rfl⟩
      obtain ⟨bn, hbn⟩ : ∃ bn, bn = W4.heap.size := ⟨_, rfl⟩
      obtain ⟨r, hr⟩ : ∃ r, r = W5.heap.size := ⟨_, rfl⟩
      have z5 : W5.heap.size = bs + 2 := by rw [hW5]; simp; omega
      have m5 : W5.heap[bs]? = some (.map es clock) := by rw [hW5, Below.heap_alloc _ _ _ (by omega)]; exact m4
      have a5 : W5.heap[a]? = some (.cells (diskCells D (.map (some bs)) (.map (some bk)) (.slice none 0 0) mf) 58 (0, 0)) := by rw [hW5, Below.heap_alloc _ _ _ (by omega)]; exact s4.1
      have hNs := Naming.start (K := redoNames (D.laid.take k) D.kept) (fm := D.fm) m4 hW5 hW6 hbn hr
      have hlen' := Mp.Is.len (P := Try.prog) (mk := strV) (mv := natV) (m := redoNames (D.laid.take k) D.kept) (w := W3.setCell ⟨a, 4, none⟩ (.map (some bs))) (b := bs) (t := 53) ⟨⟨es, clock, by rw [← hW4]; exact m4, HLI.out, HBO.out, HND.out⟩, HKN.out⟩ namesT
      have hmk5 : (Instr.makeMap 56 (some (.int .i64 ((redoNames (D.laid.take k) D.kept).length : Int)))).run Try.prog (W3.setCell ⟨a, 4, none⟩ (.map (some bs))) = .ok (.map (some bn)) W5 := by
        rw [← hW4, run_makeMap_int filesT, hW5, hbn]
      have t5 : W5.cell? ⟨a, 4, none⟩ = some (.map (some bs)) := cells_of a5 4
      have hrg : (Instr.range 53 (.map (some bs))).run Try.prog W5 = .ok (.pointer (some ⟨r, 0, none⟩)) W6 := by
        rw [run_range_map W5 53 9 3 bs es clock namesT m5, hr, hW6]
      have hrn : r = bn + 1 := by omega
      have hsn : bs < bn := by omega
      have HNs := Lib.hid hNs; have S4 := Lib.hid s4; have K4 := Lib.hid k4; have B4 := Lib.hid b4; have O4 := Lib.hid o4; have HW4 := Lib.hid hW4; have HRN := Lib.hid hrn; have HSN := Lib.hid hsn; have HBN := Lib.hid hbn; have HBW := Lib.hid hbw; have HBKL := Lib.hid hbkl; have Z4 := Lib.hid z4
      clear hbs z3 m3 l3 a3 k3 b3 o3 s4 z4 m4 k4 b4 o4 hW5 hW6 z5 m5 a5 hNs hrn hsn hbn hr hW3 hW4 q4 q5 q6 f6 hbw hbkl
      clear HM2 S6 HES HC HT
      go_wp2
      clear hlen' hmk5 t5 hrg t4 g4
      go_loopw [8] (fun _ wr => ∃ seen, Naming W4 bs bn r es clock (redoNames (D.laid.take k) D.kept) D.fm seen wr) (fun _ wr => leftIn wr r bs)
      case atStart => exact ⟨_, HNs.out⟩
      case round =>
        clear HNs
        obtain ⟨seen, hN⟩ := hrel
        have hbn := HBN.out
        have hrn := HRN.out
        have hsn := HSN.out
        have hbw := HBW.out
        have hz := hN.below.size
        have ar : wr.heap[a]? = some (.cells (diskCells D (.map (some bs)) (.map (some bk)) (.slice none 0 0) mf) 58 (0, 0)) := (hN.below.block a (by omega)).trans S4.out.1
        have hR0 := hN.rng.next (P := Try.prog) HLI.out HBO.out HND.out 0
        rcases hR0 with ⟨hall, hnx⟩ | ⟨i, pr, e, w1, hp, he, hel, hw1, hnx, hR, hen⟩
        · obtain ⟨fm', hk', hi'⟩ := hN.leave (fun i hi => hall i hi)
          have s8 := set_heap ar 8 (.map (some bn))
          have q8 : wr.cell? ⟨a, 8, none⟩ = some mf := cells_of ar 8
          have f8 := free_of ar 8
          have fin : SettledSome w (wr.setCell ⟨a, 8, none⟩ (.map (some bn))) a bk D k := by
            have hbl := HBKL.out
            refine ⟨⟨fm', bs, bn, hk', ?_, ?_, hi'.of_heap (s8.2 bn (by omega)), by omega, by omega, by omega, s8.1⟩, ?_, ?_, ?_, ?_, fun j hj h1 h2 => ?_⟩
            · exact ⟨⟨es, clock, (s8.2 bk HKA.out).trans ((hN.below.block bk (by omega)).trans K4.out), HLI.out, HBO.out, HND.out⟩, HKN.out⟩
            · exact ⟨⟨es, clock, (s8.2 bs (by omega)).trans hN.rng.map, HLI.out, HBO.out, HND.out⟩, HKN.out⟩
            · exact hN.below.os.trans O4.out.1
            · exact hN.below.tape.trans O4.out.2.1
            · exact hN.below.output.trans O4.out.2.2
            · simp; omega
            · exact (s8.2 j h1).trans ((hN.below.block j (by omega)).trans (B4.out j hj h1 h2))
          have FIN := Lib.hid fin
          clear hbn hrn hsn hbw hz ar hall hk' hi' s8 fin hN
          go_wp2
          go_returns
          exact ⟨rfl, FIN.out⟩
        · obtain ⟨W7, hW7⟩ : ∃ W7, W7 = ChangeMaps.setBlock w1 r (.mapIter (some bs) clock (seen.push e.born) clock) := ⟨_, rfl⟩
          rw [← hW7] at hnx hR hen
          have hR7 := hR (by omega)
          have hen7 := hen (by omega)
          have h7 : ∀ j, j ≠ r → W7.heap[j]? = wr.heap[j]? := fun j hj => by
            rw [hW7]
            show (w1.heap.setIfInBounds r _)[j]? = _
            rw [Array.getElem?_setIfInBounds_ne (fun e => hj e.symm)]
            rcases hw1 with rfl | rfl <;> rfl
          have z7 : W7.heap.size = wr.heap.size := by
            rw [hW7]
            show (w1.heap.setIfInBounds r _).size = _
            rcases hw1 with rfl | rfl <;> simp
          have o7 : W7.os = wr.os ∧ W7.tape = wr.tape ∧ W7.output = wr.output := by
            rw [hW7]
            rcases hw1 with rfl | rfl <;> exact ⟨rfl, rfl, rfl⟩
          have hfbs : (Mp.get D.fm pr.2).isSome = true := HIN.out _ (List.mem_map.2 ⟨pr, List.mem_of_getElem? hp, rfl⟩)
          obtain ⟨fb, hfb⟩ := Option.isSome_iff_exists.1 hfbs
          obtain ⟨bf, hmf, hrf, hmf2⟩ : ∃ bf, mf = .map (some bf) ∧ own bf = some .files ∧ Mp.Is w bf natV ptrV D.fm := by
            rcases H2.out.files with ⟨hh, _⟩ | ⟨b, hh, hb, hm⟩
            · exact absurd hh (H2.out.full (by simp)).2
            · exact ⟨b, hh, hb, hm⟩
          subst hmf
          have hfa : bf ≠ a := by rintro rfl; rw [H.out.role] at hrf; cases hrf
          have hfk : bf ≠ bk := by rintro rfl; rw [HRK.out] at hrf; cases hrf
          have hfl : bf < w.heap.size := H.out.here bf _ hrf
          have i7 : Mp.Is W7 bf natV ptrV D.fm := hmf2.of_heap ((h7 bf (by omega)).trans ((hN.below.block bf (by omega)).trans (B4.out bf hfl hfa hfk)))
          have a7 : W7.heap[a]? = some (.cells (diskCells D (.map (some bs)) (.map (some bk)) (.slice none 0 0) (.map (some bf))) 58 (0, 0)) := (h7 a (by omega)).trans ar
          have q8 : W7.cell? ⟨a, 8, none⟩ = some (.map (some bf)) := cells_of a7 8
          have hlk := (i7.look natK filesT (zeroFile W7) pr.2).2
          rw [hfb] at hlk
          obtain ⟨ns, hns, hn2, hn3⟩ := hN.ns
          have hns7 : Mp.Is W7 bn natV ptrV ns := hns.of_heap (h7 bn (by omega))
          obtain ⟨W8, hup8, hi8, hg8, _⟩ := update_world hns7 natK filesT pr.2 fb
          have hN8 : Naming W4 bs bn r es clock (redoNames (D.laid.take k) D.kept) D.fm (seen.push e.born) W8 := hN.step HND.out hn2 hn3 hp he hfb h7 z7 o7 hR7 (by omega) (by omega) hi8 hg8
          have hms : leftIn W8 r bs < leftIn wr r bs := by rw [leftIn_of hN8.rng, leftIn_of hN.rng]; exact Mp.left_less hel
          have HN8 := Lib.hid hN8; have HMS := Lib.hid hms
          unfold natV ptrV at hlk hup8
          unfold natV strV at hnx hen7
          simp only [Option.map_some, Option.getD_some] at hlk
          clear hbn hrn hsn hbw hz ar hp he hel hw1 hR hen hW7 hR7 h7 z7 o7 hfbs hfb hrf hmf2 hfa hfk hfl i7 a7 hns hns7 hi8 hg8 hN8 hms hN hn2 hn3
          go_wp2
          go_roundw
          case rel => exact ⟨_, HN8.out⟩
          case measure => exact HMS.out
end Go.Proofs.Ytobhhedggppneaa
