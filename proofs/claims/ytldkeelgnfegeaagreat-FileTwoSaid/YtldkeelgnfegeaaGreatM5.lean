/- Own texts, merged: DskY, DskZ, DskBB, SyA, BodyR, FlA, FlB, FlC, FlD. -/
import Derived.Test.YtldkeelgnfegeaaGreatM4
import Derived.Sort.KeysCollected
import Derived.Sort.EncStr
import Derived.Maps.Own
import Derived.Deep.Slices
import Derived.OpenShut
import Derived.Handy
import Derived.BigQuiet
import Derived.Deep.QuietTactic

/- The disk: names that last: settle. -/
namespace Go.Proofs.YtldkeelgnfegeaaGreat
open Go Go.RowKit Go.By

/-- How many entries are still to come. -/
def leftIn (w : World) (r b : Nat) : Nat := match w.heap[r]?, w.heap[b]? with
  | some (.mapIter _ _ seen _), some (.map es _) => (leftOf es seen).size
  | _, _ => 0
theorem leftIn_of {w : World} {b r : Nat} {es : Array MapEntry} {clock : Nat} {seen : Array Nat} (h : Mp.Ranged w b r es clock seen) : leftIn w r b = (leftOf es seen).size := by
  unfold leftIn; rw [h.iter, h.map]

/-- The table of files that have a name, as it is filled. -/
structure Naming (W : World) (bs bn r : Nat) (es : Array MapEntry) (clock : Nat) (K : List (ByteArray × Nat)) (fm : List (Nat × Nat)) (seen : Array Nat) (wr : World) : Prop where
  rng : Mp.Ranged wr bs r es clock seen
  ns : ∃ ns, Mp.Is wr bn natV ptrV ns ∧ (∀ j, (∃ i s, K[i]? = some (s, j) ∧ Mp.came es seen i) → Mp.get ns j = Mp.get fm j) ∧ (∀ j, (¬ ∃ i s, K[i]? = some (s, j) ∧ Mp.came es seen i) → Mp.get ns j = none)
  below : Below bn W wr

theorem Naming.start {W W5 W6 : World} {bs bn r : Nat} {es : Array MapEntry} {clock : Nat} {K : List (ByteArray × Nat)} {fm : List (Nat × Nat)} (hb : W.heap[bs]? = some (.map es clock)) (h5 : W5 = W.alloc (.map #[] 0)) (h6 : W6 = W5.alloc (.mapIter (some bs) clock #[] clock)) (hn : bn = W.heap.size) (hr : r = W5.heap.size) :
    Naming W bs bn r es clock K fm #[] W6 := by
  subst hn hr
  have hbl : bs < W.heap.size := (Array.getElem?_eq_some_iff.1 hb).1
  have z5 : W5.heap.size = W.heap.size + 1 := by rw [h5]; simp
  have k5 : ∀ j, j < W.heap.size → W6.heap[j]? = W.heap[j]? := fun j hj => by
    rw [h6, Below.heap_alloc _ _ _ (by omega), h5, Below.heap_alloc _ _ _ hj]
  have i5 : Mp.Is W6 W.heap.size natV ptrV ([] : List (Nat × Nat)) := by
    have := Mp.Is.made W natV ptrV
    rw [← h5] at this
    exact this.of_heap (by rw [h6, Below.heap_alloc _ _ _ (by omega)])
  refine ⟨⟨(k5 bs hbl).trans hb, by rw [h6]; exact heap_alloc_new W5 _⟩, ⟨[], i5, fun j hj => ?_, fun _ _ => rfl⟩, ⟨by rw [h6, h5]; rfl, by rw [h6, h5]; rfl, by rw [h6, h5]; rfl, by rw [h6, h5]; simp; omega, k5⟩⟩
  obtain ⟨i, s, _, e, _, he⟩ := hj
  simp at he

theorem Naming.leave {W wr : World} {bs bn r : Nat} {es : Array MapEntry} {clock : Nat} {K : List (ByteArray × Nat)} {fm : List (Nat × Nat)} {seen : Array Nat} (h : Naming W bs bn r es clock K fm seen wr) (hall : ∀ i, i < K.length → Mp.came es seen i) :
    ∃ fm', Kept fm K fm' ∧ Mp.Is wr bn natV ptrV fm' := by
  obtain ⟨ns, h1, h2, h3⟩ := h.ns
  refine ⟨ns, fun j => ?_, h1⟩
  by_cases hj : j ∈ K.map (·.2)
  · rw [if_pos hj]
    obtain ⟨p, hp, rfl⟩ := List.mem_map.1 hj
    obtain ⟨i, hi, rfl⟩ := List.getElem_of_mem hp
    exact h2 _ ⟨i, K[i].1, List.getElem?_eq_getElem hi, hall i hi⟩
  · rw [if_neg hj]
    refine h3 j ?_
    rintro ⟨i, s, hs, _⟩
    exact hj (List.mem_map.2 ⟨(s, j), List.mem_of_getElem? hs, rfl⟩)

/-- One file more is laid into the table. -/
theorem Naming.step {W wr W7 W8 : World} {bs bn r i fb : Nat} {p : ByteArray × Nat} {e : MapEntry} {es : Array MapEntry} {clock : Nat} {K : List (ByteArray × Nat)} {fm : List (Nat × Nat)} {seen : Array Nat} (h : Naming W bs bn r es clock K fm seen wr) (hnd : (es.toList.map (·.born)).Nodup)
    {ns : List (Nat × Nat)} (h2 : ∀ j, (∃ i s, K[i]? = some (s, j) ∧ Mp.came es seen i) → Mp.get ns j = Mp.get fm j) (h3 : ∀ j, (¬ ∃ i s, K[i]? = some (s, j) ∧ Mp.came es seen i) → Mp.get ns j = none)
    (hp : K[i]? = some p) (he : es[i]? = some e) (hfb : Mp.get fm p.2 = some fb) (h7 : ∀ k, k ≠ r → W7.heap[k]? = wr.heap[k]?) (hz : W7.heap.size = wr.heap.size) (ho : W7.os = wr.os ∧ W7.tape = wr.tape ∧ W7.output = wr.output) (hR : Mp.Ranged W7 bs r es clock (seen.push e.born)) (hrb : bn < r) (hsb : bs < bn)
    (h8 : Mp.Is W8 bn natV ptrV (Mp.put ns p.2 fb)) (hg : W7.grownBy W8 (some bn)) :
    Naming W bs bn r es clock K fm (seen.push e.born) W8 := by
  have hlt : r < W7.heap.size := (Array.getElem?_eq_some_iff.1 hR.iter).1
  have hput : ∀ j, Mp.get (Mp.put ns p.2 fb) j = if p.2 = j then some fb else Mp.get ns j := fun j => Mp.get_put ns p.2 j fb
  refine ⟨⟨(hg.block bs (by omega) (by simp; omega)).trans hR.map, (hg.block r hlt (by simp; omega)).trans hR.iter⟩, ⟨Mp.put ns p.2 fb, h8, fun j hj => ?_, fun j hj => ?_⟩, ⟨hg.os.trans (ho.1.trans h.below.os), hg.tape.trans (ho.2.1.trans h.below.tape), hg.output.trans (ho.2.2.trans h.below.output), ?_, fun k hk => ?_⟩⟩
  · rw [hput]
    by_cases hpj : p.2 = j
    · rw [if_pos hpj, ← hpj, hfb]
    · rw [if_neg hpj]
      obtain ⟨i', s, hs, hc⟩ := hj
      rcases (Mp.came_push hnd he i').1 hc with hc | rfl
      · exact h2 j ⟨i', s, hs, hc⟩
      · rw [hp] at hs; cases hs; exact absurd rfl hpj
  · rw [hput]
    by_cases hpj : p.2 = j
    · exact absurd ⟨i, p.1, by rw [hp, ← hpj], (Mp.came_push hnd he i).2 (.inr rfl)⟩ hj
    · rw [if_neg hpj]
      refine h3 j ?_
      rintro ⟨i', s, hs, hc⟩
      exact hj ⟨i', s, hs, (Mp.came_push hnd he i').2 (.inl hc)⟩
  · have := h.below.size; have := hg.size; omega
  · exact (hg.block k (by omega) (by simp; omega)).trans ((h7 k (by omega)).trans (h.below.block k hk))

/-- What stands behind settle, where there are tables. -/
structure SettledSome (w w' : World) (a bk : Nat) (D : DiskA) (n : Nat) : Prop where
  out : ∃ fm' bs bn, Kept D.fm (redoNames (D.laid.take n) D.kept) fm' ∧ Mp.Is w' bk strV natV (redoNames (D.laid.take n) D.kept) ∧ Mp.Is w' bs strV natV (redoNames (D.laid.take n) D.kept) ∧ Mp.Is w' bn natV ptrV fm' ∧
    w.heap.size ≤ bs ∧ w.heap.size ≤ bn ∧ bs ≠ bn ∧ w'.heap[a]? = some (.cells (diskCells D (.map (some bs)) (.map (some bk)) (.slice none 0 0) (.map (some bn))) 56 (0, 0))
  os : w'.os = w.os
  tape : w'.tape = w.tape
  output : w'.output = w.output
  size : w.heap.size ≤ w'.heap.size
  block : ∀ k, k < w.heap.size → k ≠ a → k ≠ bk → w'.heap[k]? = w.heap[k]?

set_option maxRecDepth 100000 in
set_option maxHeartbeats 2000000 in
theorem settle_some (own : Own) (a n : Nat) (D : DiskA) (w : World) (h : DiskIs w own a D) {ms lv mf : Value} {bk : Nat} (h1 : w.heap[a]? = some (.cells (diskCells D ms (.map (some bk)) lv mf) 56 (0, 0))) (h2 : Parts w own ms (.map (some bk)) mf lv D)
    (hn : n ≤ D.laid.length) (hlen : D.laid.length < 1000000) (ht : ∀ o ∈ D.laid, o.told = true) (hin : ∀ j ∈ (redoNames (D.laid.take n) D.kept).map (·.2), (Mp.get D.fm j).isSome = true) :
    Calls Tryz.prog 25 #[.pointer (some ⟨a, 0, none⟩), .int .i64 n] w fun e w' => e = .returned (.tuple #[]) ∧ SettledSome w w' a bk D n := by
  have hlt : a < w.heap.size := h.here a _ h.role
  obtain ⟨hrk, hmk⟩ : own bk = some .kept ∧ Mp.Is w bk strV natV D.kept := by
    rcases h2.kept with ⟨hh, _⟩ | ⟨b, hh, hb, hm⟩
    · cases hh
    · cases hh; exact ⟨hb, hm⟩
  have hka : bk ≠ a := by rintro rfl; rw [h.role] at hrk; cases hrk
  obtain ⟨p, c, hlv, hlc, hcell⟩ : ∃ p c, lv = .slice p D.laid.length c ∧ D.laid.length ≤ c ∧ ∀ k o, D.laid[k]? = some o → ∃ g, p = some ⟨g, 0, none⟩ ∧ own g = some .laid ∧ w.cell? ⟨g, k, none⟩ = some (nameV o) := by
    have ho := h2.laid
    rcases ho.2 with ⟨h, h0⟩ | ⟨g, c, cur, h, _, hg, hc, _⟩
    · exact ⟨none, 0, by rw [h, h0], by omega, fun k o hk => by rw [List.eq_nil_of_length_eq_zero h0] at hk; cases hk⟩
    · refine ⟨_, c, h, hc, fun k o hk => ⟨g, rfl, h2.laidR g (by rw [h]; rfl), ?_⟩⟩
      have := ho.cells (g := g) (by rw [h]; rfl) k (nameV o) (by rw [List.getElem?_map, hk]; rfl)
      rw [Addr.add_lit, Nat.zero_add] at this
      exact this
  subst hlv
  have c5 : w.cell? ⟨a, 5, none⟩ = some (.map (some bk)) := cells_of h1 5
  have c6 : w.cell? ⟨a, 6, none⟩ = some (.slice p D.laid.length c) := cells_of h1 6
  have hup := upto_runN p D.laid.length c n (by omega)
  have H := Lib.hid h; have H1 := Lib.hid h1; have H2 := Lib.hid h2; have HC := Lib.hid hcell; have HT := Lib.hid ht; have HIN := Lib.hid hin; have HMK := Lib.hid hmk; have HRK := Lib.hid hrk; have HKA := Lib.hid hka
  clear h h1 h2 hcell ht hin hmk hrk hka
  go_enter Tryz.func25, Tryz.ntmps25
  go_wp2
  clear hup c5 c6
  have h0 : KeptTo w w (.map (some bk)) own D.kept := ⟨.inr ⟨bk, rfl, HRK.out, HMK.out⟩, rfl, rfl, rfl, Nat.le_refl _, fun _ _ _ => rfl⟩
  have H0 := Lib.hid h0; clear h0
  go_loopw [16] (fun i wr => ∃ k : Nat, k ≤ n ∧ i = .int .i64 k ∧ KeptTo w wr (.map (some bk)) own (redoNames (D.laid.take k) D.kept)) (fun i _ => n - (intOf i).toNat)
  case atStart => exact ⟨0, by omega, rfl, H0.out⟩
  case round =>
    obtain ⟨k, hk, rfl, hkt⟩ := hrel
    clear H0
    by_cases hkn : k < n
    · have hko : k < D.laid.length := by omega
      obtain ⟨g, rfl, hgr, hcg⟩ := HC.out k _ (List.getElem?_eq_getElem hko)
      have hgb : g ≠ bk := by rintro rfl; rw [HRK.out] at hgr; cases hgr
      have hgl : g < w.heap.size := H.out.here g _ hgr
      have q1 : wr.cell? ⟨g, k, none⟩ = some (nameV D.laid[k]) := (World.cell?_of_block (hkt.block g hgl (by intro e; cases e; exact hgb rfl))).trans hcg
      have q5 : wr.cell? ⟨a, 5, none⟩ = some (.map (some bk)) := (World.cell?_of_block (hkt.block a hlt (by intro e; cases e; exact HKA.out rfl))).trans (cells_of H1.out 5)
      have hmr : Mp.Is wr bk strV natV (redoNames (D.laid.take k) D.kept) := by
        rcases hkt.map with ⟨hh, _⟩ | ⟨b, hh, _, hm⟩
        · cases hh
        · cases hh; exact hm
      obtain ⟨fid, recv, hv, henter, hcall⟩ := redoName_any D.laid[k] (HT.out _ (List.getElem_mem hko)) bk _ wr hmr
      rw [hv] at q1
      have hsn : redoNames (D.laid.take (k + 1)) D.kept = redoName D.laid[k] (redoNames (D.laid.take k) D.kept) := by
        rw [List.take_succ_eq_append_getElem hko, redoNames_snoc]
      have HSN := Lib.hid hsn; have HCALL := Lib.hid hcall; have HKT := Lib.hid hkt
      have hkn' : (k : Int) < n := by omega
      have hkl : (k : Int) < D.laid.length := by omega
      clear hsn hcall hkt hcg hmr hv hgb hgl hgr
      go_wp2_with fail
      refine HCALL.out.mono ?_
      rintro e w2 ⟨rfl, hm2, hg2⟩
      have hkt2 := HKT.out.step HRK.out hm2 hg2
      have HKT2 := Lib.hid hkt2
      clear hm2 hg2 hkt2 henter
      go_wp2
      go_roundw
      case rel => exact ⟨k + 1, by omega, by go_num, by rw [HSN.out]; exact HKT2.out⟩
      case measure => simp [intOf]; omega
    · obtain rfl : k = n := by omega
      have a1 : wr.heap[a]? = some (.cells (diskCells D ms (.map (some bk)) (.slice p D.laid.length c) mf) 56 (0, 0)) := (hkt.block a hlt (by intro e; cases e; exact HKA.out rfl)).trans H1.out
      have s6 := set_heap a1 6 (.slice none 0 0)
      have q6 : wr.cell? ⟨a, 6, none⟩ = some (.slice p D.laid.length c) := cells_of a1 6
      have q5 : wr.cell? ⟨a, 5, none⟩ = some (.map (some bk)) := cells_of a1 5
      have q4 : wr.cell? ⟨a, 4, none⟩ = some ms := cells_of a1 4
      have f6 := free_of a1 6
      have hmr : Mp.Is wr bk strV natV (redoNames (D.laid.take k) D.kept) := by
        rcases hkt.map with ⟨hh, _⟩ | ⟨b, hh, _, hm⟩
        · cases hh
        · cases hh; exact hm
      obtain ⟨⟨es, clock, hes, hlies, hborn, hnd⟩, hkn2⟩ := hmr
      have hm2 : (wr.setCell ⟨a, 6, none⟩ (.slice none 0 0)).heap[bk]? = some (.map es clock) := (s6.2 bk HKA.out).trans hes
      have HKT := Lib.hid hkt; have HM2 := Lib.hid hm2; have S6 := Lib.hid s6; have HES := Lib.hid hes; have HLI := Lib.hid hlies; have HBO := Lib.hid hborn; have HND := Lib.hid hnd; have HKN := Lib.hid hkn2
      clear hkt a1 s6 hes hlies hborn hnd hkn2 hm2
      go_wp2_with fail
      refine (cloneMap_any bk es clock _ HM2.out).mono ?_
      rintro e W3 ⟨rfl, hW3⟩
      -- what stands behind the clone
      obtain ⟨bs, hbs⟩ : ∃ bs, bs = (wr.setCell ⟨a, 6, none⟩ (.slice none 0 0)).heap.size := ⟨_, rfl⟩
      rw [← hbs]
      have hbw : w.heap.size ≤ bs := by rw [hbs]; have := HKT.out.size; simpa using this
      have z3 : W3.heap.size = bs + 1 := by rw [hW3, hbs]; simp
      have m3 : W3.heap[bs]? = some (.map es clock) := by rw [hW3, hbs]; exact heap_alloc_new _ _
      have l3 : ∀ j, j < bs → W3.heap[j]? = (wr.setCell ⟨a, 6, none⟩ (.slice none 0 0)).heap[j]? := fun j hj => by rw [hW3]; exact Below.heap_alloc _ _ _ (by omega)
      have hbkl : bk < bs := by
        have := (Array.getElem?_eq_some_iff.1 HM2.out).1
        omega
      have a3 : W3.heap[a]? = some (.cells (diskCells D ms (.map (some bk)) (.slice none 0 0) mf) 56 (0, 0)) := (l3 a (by omega)).trans S6.out.1
      have k3 : W3.heap[bk]? = some (.map es clock) := (l3 bk hbkl).trans HM2.out
      have b3 : ∀ j, j < w.heap.size → j ≠ a → j ≠ bk → W3.heap[j]? = w.heap[j]? := fun j hj h1 h2 => (l3 j (by omega)).trans ((S6.out.2 j h1).trans (HKT.out.block j hj (by intro e; cases e; exact h2 rfl)))
      have o3 : W3.os = w.os ∧ W3.tape = w.tape ∧ W3.output = w.output := by rw [hW3]; exact ⟨HKT.out.os, HKT.out.tape, HKT.out.output⟩
      -- the names as they are seen
      have s4 := set_heap a3 4 (.map (some bs))
      have t4 : W3.cell? ⟨a, 4, none⟩ = some ms := cells_of a3 4
      have g4 := free_of a3 4
      obtain ⟨W4, hW4⟩ : ∃ W4, W4 = W3.setCell ⟨a, 4, none⟩ (.map (some bs)) := ⟨_, rfl⟩
      rw [← hW4] at s4
      have z4 : W4.heap.size = bs + 1 := by rw [hW4]; simpa using z3
      have m4 : W4.heap[bs]? = some (.map es clock) := (s4.2 bs (by omega)).trans m3
      have k4 : W4.heap[bk]? = some (.map es clock) := (s4.2 bk HKA.out).trans k3
      have b4 : ∀ j, j < w.heap.size → j ≠ a → j ≠ bk → W4.heap[j]? = w.heap[j]? := fun j hj h1 h2 => (s4.2 j h1).trans (b3 j hj h1 h2)
      have o4 : W4.os = w.os ∧ W4.tape = w.tape ∧ W4.output = w.output := by rw [hW4]; exact o3
      obtain ⟨W5, hW5⟩ : ∃ W5, W5 = W4.alloc (.map #[] 0) := ⟨_, rfl⟩
      obtain ⟨W6, hW6⟩ : ∃ W6, W6 = W5.alloc (.mapIter (some bs) clock #[] clock) := ⟨_, rfl⟩
      obtain ⟨bn, hbn⟩ : ∃ bn, bn = W4.heap.size := ⟨_, rfl⟩
      obtain ⟨r, hr⟩ : ∃ r, r = W5.heap.size := ⟨_, rfl⟩
      have z5 : W5.heap.size = bs + 2 := by rw [hW5]; simp; omega
      have m5 : W5.heap[bs]? = some (.map es clock) := by rw [hW5, Below.heap_alloc _ _ _ (by omega)]; exact m4
      have a5 : W5.heap[a]? = some (.cells (diskCells D (.map (some bs)) (.map (some bk)) (.slice none 0 0) mf) 56 (0, 0)) := by rw [hW5, Below.heap_alloc _ _ _ (by omega)]; exact s4.1
      have hNs := Naming.start (K := redoNames (D.laid.take k) D.kept) (fm := D.fm) m4 hW5 hW6 hbn hr
      have hlen' := Mp.Is.len (P := Tryz.prog) (mk := strV) (mv := natV) (m := redoNames (D.laid.take k) D.kept) (w := W3.setCell ⟨a, 4, none⟩ (.map (some bs))) (b := bs) (t := 51) ⟨⟨es, clock, by rw [← hW4]; exact m4, HLI.out, HBO.out, HND.out⟩, HKN.out⟩ namesT
      have hmk5 : (Instr.makeMap 54 (some (.int .i64 ((redoNames (D.laid.take k) D.kept).length : Int)))).run Tryz.prog (W3.setCell ⟨a, 4, none⟩ (.map (some bs))) = .ok (.map (some bn)) W5 := by
        rw [← hW4, run_makeMap_int filesT, hW5, hbn]
      have t5 : W5.cell? ⟨a, 4, none⟩ = some (.map (some bs)) := cells_of a5 4
      have hrg : (Instr.range 51 (.map (some bs))).run Tryz.prog W5 = .ok (.pointer (some ⟨r, 0, none⟩)) W6 := by
        rw [run_range_map W5 51 9 3 bs es clock namesT m5, hr, hW6]
      have hrn : r = bn + 1 := by omega
      have hsn : bs < bn := by omega
      have HNs := Lib.hid hNs; have S4 := Lib.hid s4; have K4 := Lib.hid k4; have B4 := Lib.hid b4; have O4 := Lib.hid o4; have HW4 := Lib.hid hW4; have HRN := Lib.hid hrn; have HSN := Lib.hid hsn; have HBN := Lib.hid hbn; have HBW := Lib.hid hbw; have HBKL := Lib.hid hbkl; have Z4 := Lib.hid z4
      clear hbs z3 m3 l3 a3 k3 b3 o3 s4 z4 m4 k4 b4 o4 hW5 hW6 z5 m5 a5 hNs hrn hsn hbn hr hW3 hW4 q4 q5 q6 f6 hbw hbkl
      clear HM2 S6 HES HC HT
      go_wp2
      clear hlen' hmk5 t5 hrg t4 g4
      go_loopw [8] (fun _ wr => ∃ seen, Naming W4 bs bn r es clock (redoNames (D.laid.take k) D.kept) D.fm seen wr) (fun _ wr => leftIn wr r bs)
      case atStart => exact ⟨_, HNs.out⟩
      case round =>
        clear HNs
        obtain ⟨seen, hN⟩ := hrel
        have hbn := HBN.out
        have hrn := HRN.out
        have hsn := HSN.out
        have hbw := HBW.out
        have hz := hN.below.size
        have ar : wr.heap[a]? = some (.cells (diskCells D (.map (some bs)) (.map (some bk)) (.slice none 0 0) mf) 56 (0, 0)) := (hN.below.block a (by omega)).trans S4.out.1
        have hR0 := hN.rng.next (P := Tryz.prog) HLI.out HBO.out HND.out 0
        rcases hR0 with ⟨hall, hnx⟩ | ⟨i, pr, e, w1, hp, he, hel, hw1, hnx, hR, hen⟩
        · obtain ⟨fm', hk', hi'⟩ := hN.leave (fun i hi => hall i hi)
          have s8 := set_heap ar 8 (.map (some bn))
          have q8 : wr.cell? ⟨a, 8, none⟩ = some mf := cells_of ar 8
          have f8 := free_of ar 8
          have fin : SettledSome w (wr.setCell ⟨a, 8, none⟩ (.map (some bn))) a bk D k := by
            have hbl := HBKL.out
            refine ⟨⟨fm', bs, bn, hk', ?_, ?_, hi'.of_heap (s8.2 bn (by omega)), by omega, by omega, by omega, s8.1⟩, ?_, ?_, ?_, ?_, fun j hj h1 h2 => ?_⟩
            · exact ⟨⟨es, clock, (s8.2 bk HKA.out).trans ((hN.below.block bk (by omega)).trans K4.out), HLI.out, HBO.out, HND.out⟩, HKN.out⟩
            · exact ⟨⟨es, clock, (s8.2 bs (by omega)).trans hN.rng.map, HLI.out, HBO.out, HND.out⟩, HKN.out⟩
            · exact hN.below.os.trans O4.out.1
            · exact hN.below.tape.trans O4.out.2.1
            · exact hN.below.output.trans O4.out.2.2
            · simp; omega
            · exact (s8.2 j h1).trans ((hN.below.block j (by omega)).trans (B4.out j hj h1 h2))
          have FIN := Lib.hid fin
          clear hbn hrn hsn hbw hz ar hall hk' hi' s8 fin hN
          go_wp2
          go_returns
          exact ⟨rfl, FIN.out⟩
        · obtain ⟨W7, hW7⟩ : ∃ W7, W7 = ChangeMaps.setBlock w1 r (.mapIter (some bs) clock (seen.push e.born) clock) := ⟨_, rfl⟩
          rw [← hW7] at hnx hR hen
          have hR7 := hR (by omega)
          have hen7 := hen (by omega)
          have h7 : ∀ j, j ≠ r → W7.heap[j]? = wr.heap[j]? := fun j hj => by
            rw [hW7]
            show (w1.heap.setIfInBounds r _)[j]? = _
            rw [Array.getElem?_setIfInBounds_ne (fun e => hj e.symm)]
            rcases hw1 with rfl | rfl <;> rfl
          have z7 : W7.heap.size = wr.heap.size := by
            rw [hW7]
            show (w1.heap.setIfInBounds r _).size = _
            rcases hw1 with rfl | rfl <;> simp
          have o7 : W7.os = wr.os ∧ W7.tape = wr.tape ∧ W7.output = wr.output := by
            rw [hW7]
            rcases hw1 with rfl | rfl <;> exact ⟨rfl, rfl, rfl⟩
          have hfbs : (Mp.get D.fm pr.2).isSome = true := HIN.out _ (List.mem_map.2 ⟨pr, List.mem_of_getElem? hp, rfl⟩)
          obtain ⟨fb, hfb⟩ := Option.isSome_iff_exists.1 hfbs
          obtain ⟨bf, hmf, hrf, hmf2⟩ : ∃ bf, mf = .map (some bf) ∧ own bf = some .files ∧ Mp.Is w bf natV ptrV D.fm := by
            rcases H2.out.files with ⟨hh, _⟩ | ⟨b, hh, hb, hm⟩
            · exact absurd hh (H2.out.full (by simp)).2
            · exact ⟨b, hh, hb, hm⟩
          subst hmf
          have hfa : bf ≠ a := by rintro rfl; rw [H.out.role] at hrf; cases hrf
          have hfk : bf ≠ bk := by rintro rfl; rw [HRK.out] at hrf; cases hrf
          have hfl : bf < w.heap.size := H.out.here bf _ hrf
          have i7 : Mp.Is W7 bf natV ptrV D.fm := hmf2.of_heap ((h7 bf (by omega)).trans ((hN.below.block bf (by omega)).trans (B4.out bf hfl hfa hfk)))
          have a7 : W7.heap[a]? = some (.cells (diskCells D (.map (some bs)) (.map (some bk)) (.slice none 0 0) (.map (some bf))) 56 (0, 0)) := (h7 a (by omega)).trans ar
          have q8 : W7.cell? ⟨a, 8, none⟩ = some (.map (some bf)) := cells_of a7 8
          have hlk := (i7.look natK filesT (zeroFile W7) pr.2).2
          rw [hfb] at hlk
          obtain ⟨ns, hns, hn2, hn3⟩ := hN.ns
          have hns7 : Mp.Is W7 bn natV ptrV ns := hns.of_heap (h7 bn (by omega))
          obtain ⟨W8, hup8, hi8, hg8, _⟩ := update_world hns7 natK filesT pr.2 fb
          have hN8 : Naming W4 bs bn r es clock (redoNames (D.laid.take k) D.kept) D.fm (seen.push e.born) W8 := hN.step HND.out hn2 hn3 hp he hfb h7 z7 o7 hR7 (by omega) (by omega) hi8 hg8
          have hms : leftIn W8 r bs < leftIn wr r bs := by rw [leftIn_of hN8.rng, leftIn_of hN.rng]; exact Mp.left_less hel
          have HN8 := Lib.hid hN8; have HMS := Lib.hid hms
          unfold natV ptrV at hlk hup8
          unfold natV strV at hnx hen7
          simp only [Option.map_some, Option.getD_some] at hlk
          clear hbn hrn hsn hbw hz ar hp he hel hw1 hR hen hW7 hR7 h7 z7 o7 hfbs hfb hrf hmf2 hfa hfk hfl i7 a7 hns hns7 hi8 hg8 hN8 hms hN hn2 hn3
          go_wp2
          go_roundw
          case rel => exact ⟨_, HN8.out⟩
          case measure => exact HMS.out
end Go.Proofs.YtldkeelgnfegeaaGreat

/- The disk: names that last: settle, as lists; SyncDir. -/
namespace Go.Proofs.YtldkeelgnfegeaaGreat
open Go Go.RowKit Go.By

theorem mem_put {α β : Type} [DecidableEq α] {m : List (α × β)} {a : α} {v : β} {p : α × β} (h : p ∈ Mp.put m a v) : p = (a, v) ∨ p ∈ m := by
  induction m with
  | nil => simp [Mp.put] at h; exact .inl h
  | cons q m ih =>
    simp only [Mp.put] at h
    split at h
    · rcases List.mem_cons.1 h with h | h
      · exact .inl h
      · exact .inr (List.mem_cons_of_mem _ h)
    · rcases List.mem_cons.1 h with h | h
      · exact .inr (by rw [h]; exact List.mem_cons_self)
      · rcases ih h with h | h
        · exact .inl h
        · exact .inr (List.mem_cons_of_mem _ h)
theorem mem_del {α β : Type} [DecidableEq α] {m : List (α × β)} {a : α} {p : α × β} (h : p ∈ Mp.del m a) : p ∈ m := by
  induction m with
  | nil => simp [Mp.del] at h
  | cons q m ih =>
    simp only [Mp.del] at h
    split at h
    · exact List.mem_cons_of_mem _ h
    · rcases List.mem_cons.1 h with h | h
      · rw [h]; exact List.mem_cons_self
      · exact List.mem_cons_of_mem _ (ih h)
theorem get_of_mem {α β : Type} [DecidableEq α] {m : List (α × β)} (hn : (m.map (·.1)).Nodup) {p : α × β} (h : p ∈ m) : Mp.get m p.1 = some p.2 := by
  induction m with
  | nil => cases h
  | cons q m ih =>
    simp only [List.map_cons, List.nodup_cons] at hn
    simp only [Mp.get]
    rcases List.mem_cons.1 h with h | h
    · subst h; rw [if_pos rfl]
    · rw [if_neg (by intro e; exact hn.1 (by rw [e]; exact List.mem_map_of_mem h))]
      exact ih hn.2 h
theorem mem_of_get {α β : Type} [DecidableEq α] {m : List (α × β)} {a : α} {v : β} (h : Mp.get m a = some v) : (a, v) ∈ m := by
  induction m with
  | nil => cases h
  | cons q m ih =>
    simp only [Mp.get] at h
    split at h
    · rename_i e
      cases h; rw [← e]; exact List.mem_cons_self
    · exact List.mem_cons_of_mem _ (ih h)

theorem mem_redo {l : List NameOp} (ht : ∀ o ∈ l, o.told = true) : ∀ {m : List (ByteArray × Nat)} {p : ByteArray × Nat}, p ∈ redoNames l m → p ∈ m ∨ NameOp.create p.1 p.2 ∈ l := by
  induction l with
  | nil => intro m p h; exact .inl h
  | cons o l ih =>
    intro m p h
    have hh : p ∈ redoNames l (redoName o m) := h
    rcases ih (fun o ho => ht o (List.mem_cons_of_mem _ ho)) hh with h | h
    · cases o with
      | create s n =>
        rcases mem_put h with h | h
        · subst h; exact .inr List.mem_cons_self
        · exact .inl h
      | remove s => exact .inl (mem_del h)
      | rename s t => have := ht _ List.mem_cons_self; cases this
    · exact .inr (List.mem_cons_of_mem _ h)
theorem nodup_redo {l : List NameOp} : ∀ {m : List (ByteArray × Nat)}, (m.map (·.1)).Nodup → ((redoNames l m).map (·.1)).Nodup := by
  induction l with
  | nil => intro m h; exact h
  | cons o l ih =>
    intro m h
    refine ih (m := redoName o m) ?_
    cases o with
    | create s n => exact Mp.nodup_put h s n
    | remove s => exact Mp.nodup_del h s
    | rename s t => exact Mp.nodup_put (Mp.nodup_del h s) t _

theorem MapV.nodup {α β : Type} [DecidableEq α] {w : World} {own : Own} {r : Role} {v : Value} {mk : α → Value} {mv : β → Value} {m : List (α × β)} (h : MapV w own r v mk mv m) : (m.map (·.1)).Nodup := by
  rcases h with ⟨_, rfl⟩ | ⟨_, _, _, hm⟩
  · simp
  · exact hm.nodup

/-- The numbers that names lead to have files. -/
theorem redo_in {D : DiskA} (hok : D.Ok) (hn : (D.kept.map (·.1)).Nodup) (ht : ∀ o ∈ D.laid, o.told = true) (n : Nat) : ∀ j ∈ (redoNames (D.laid.take n) D.kept).map (·.2), (Mp.get D.fm j).isSome = true := by
  intro j hj
  obtain ⟨p, hp, rfl⟩ := List.mem_map.1 hj
  rcases mem_redo (fun o ho => ht o (List.mem_of_mem_take ho)) hp with h | h
  · exact hok.keptIn p.1 p.2 (get_of_mem hn h)
  · exact hok.laidIn p.1 p.2 (List.mem_of_mem_take h)

theorem DiskA.settled_ok {D : DiskA} (hok : D.Ok) {n : Nat} {fm' : List (Nat × Nat)} (hk : Kept D.fm (redoNames (D.laid.take n) D.kept) fm') (hin : ∀ j ∈ (redoNames (D.laid.take n) D.kept).map (·.2), (Mp.get D.fm j).isSome = true) : (D.settled n fm').Ok where
  seenIn := fun s j h => by
    have hm : j ∈ (redoNames (D.laid.take n) D.kept).map (·.2) := List.mem_map.2 ⟨(s, j), mem_of_get h, rfl⟩
    show (Mp.get fm' j).isSome = true
    rw [hk j, if_pos hm]; exact hin j hm
  keptIn := fun s j h => by
    have hm : j ∈ (redoNames (D.laid.take n) D.kept).map (·.2) := List.mem_map.2 ⟨(s, j), mem_of_get h, rfl⟩
    show (Mp.get fm' j).isSome = true
    rw [hk j, if_pos hm]; exact hin j hm
  laidIn := fun s j h => by cases h
  made := fun j h => by
    have h' : (Mp.get fm' j).isSome = true := h
    rw [hk j] at h'
    split at h'
    · exact hok.made j h'
    · cases h'

def Settled (own : Own) (a n : Nat) (D : DiskA) (w w' : World) : Prop :=
  ∃ own' fm', Steps own own' w w' ∧ DiskIs w' own' a (D.settled n fm') ∧ Kept D.fm (redoNames (D.laid.take n) D.kept) fm'

theorem settle_any (own : Own) (a n : Nat) (D : DiskA) (w : World) (h : DiskIs w own a D) (hok : D.Ok) (hn : n ≤ D.laid.length) (hlen : D.laid.length < 1000000) (ht : ∀ o ∈ D.laid, o.told = true) :
    Calls Tryz.prog 25 #[.pointer (some ⟨a, 0, none⟩), .int .i64 n] w fun e w' => e = .returned (.tuple #[]) ∧ Settled own a n D w w' := by
  obtain ⟨ms, mk, mf, lv, h1, h2⟩ := h.out
  have hlt : a < w.heap.size := h.here a _ h.role
  rcases h2.kept with ⟨rfl, hk0⟩ | ⟨bk, rfl, hrk, hmk⟩
  · have hb := h2.bare rfl
    have hn0 : n = 0 := by rw [hb.2.2] at hn; simpa using hn
    subst hn0
    refine (settle_nil own a D w h h1 h2).mono ?_
    rintro e w' ⟨rfl, z, kn, ka, q1, q2, q3, kb⟩
    have he : redoNames (D.laid.take 0) D.kept = [] := by rw [List.take_zero, hk0]; rfl
    refine ⟨rfl, own.add w.heap.size .files, [], ⟨q1, q2, q3, by omega, fun k hk hne => kb k hk ?_, fun k hk => Own.add_lt hk⟩, ⟨⟨.map none, .map none, .map (some w.heap.size), .slice none 0 0, ka, ?_⟩, ?_, fun k hk => ?_, fun k r hk => ?_⟩, ?_⟩
    · rintro rfl; rw [h.role] at hne; simp at hne
    · refine ⟨.inl ⟨rfl, he⟩, .inl ⟨rfl, he⟩, World.ownsRow_nil _ _ _ _, fun k hk => (by cases hk), .inr ⟨w.heap.size, rfl, Own.add_self _ _ _, ⟨⟨#[], 0, kn, rfl, by simp, by simp⟩, by simp [DiskA.settled]⟩⟩, fun j fb hj => (by cases hj), fun _ => ⟨he, rfl, rfl⟩, fun hne => absurd rfl hne, fun _ => rfl⟩
    · exact Own.add_old h.here (Nat.le_refl _) h.role
    · rcases Own.add_some hk with ⟨_, hh⟩ | hh
      · cases hh
      · exact h.only k hh
    · rcases Own.add_some hk with ⟨hh, _⟩ | hh
      · omega
      · have := h.here k r hh; omega
    · intro j; rw [he]; rfl
  · have hin := redo_in hok h2.kept.nodup ht n
    refine (settle_some own a n D w h h1 h2 hn hlen ht hin).mono ?_
    rintro e w' ⟨rfl, ⟨fm', bs, bn, hk, i1, i2, i3, hbs, hbn, hne, ha⟩, q1, q2, q3, z, kb⟩
    have hka : bk ≠ a := by rintro rfl; rw [h.role] at hrk; cases hrk
    let o1 := own.add bs .seen
    let o2 := o1.add bn .files
    have r0 : ∀ k r, own k = some r → o2 k = some r := fun k r hkr => by
      have := h.here k r hkr
      show (o1.add bn .files) k = _
      unfold Own.add
      rw [if_neg (by omega)]
      show (own.add bs .seen) k = _
      unfold Own.add
      rw [if_neg (by omega)]; exact hkr
    have rs : o2 bs = some .seen := by
      show (o1.add bn .files) bs = _
      unfold Own.add
      rw [if_neg hne]
      exact Own.add_self _ _ _
    have rn : o2 bn = some .files := Own.add_self _ _ _
    have stay : Stay own o2 (fun r => r ≠ .disk ∧ r ≠ .kept) w w' := ⟨r0, fun k r hkr hr => kb k (h.here k r hkr) (by rintro rfl; rw [h.role] at hkr; cases hkr; exact hr.1 rfl) (by rintro rfl; rw [hrk] at hkr; cases hkr; exact hr.2 rfl)⟩
    refine ⟨rfl, o2, fm', ⟨q1, q2, q3, z, fun k hkl hor => kb k hkl ?_ ?_, fun k hkl => ?_⟩, ⟨⟨_, _, _, _, ha, ?_⟩, r0 a _ h.role, fun k hkr => ?_, fun k r hkr => ?_⟩, hk⟩
    · rintro rfl; rw [h.role] at hor; simp at hor
    · rintro rfl; rw [hrk] at hor; simp at hor
    · show (o1.add bn .files) k = _
      unfold Own.add
      rw [if_neg (by omega)]
      show (own.add bs .seen) k = _
      unfold Own.add
      rw [if_neg (by omega)]
    · refine ⟨.inr ⟨bs, rfl, rs, i2⟩, .inr ⟨bk, rfl, r0 bk _ hrk, i1⟩, World.ownsRow_nil _ _ _ _, fun k hk => (by cases hk), .inr ⟨bn, rfl, rn, i3⟩, fun j fb hj => ?_, fun hh => (by cases hh), fun _ => ⟨by simp, by simp⟩, fun _ => rfl⟩
      have hj' : Mp.get fm' j = some fb := hj
      rw [hk j] at hj'
      split at hj'
      · exact (h2.each j fb hj').stay stay (by simp) (by simp) (by simp) (by simp) (by simp)
      · cases hj'
    · rcases Own.add_some hkr with ⟨_, hh⟩ | hh
      · cases hh
      rcases Own.add_some hh with ⟨_, hh⟩ | hh
      · cases hh
      exact h.only k hh
    · rcases Own.add_some hkr with ⟨rfl, _⟩ | hh
      · exact i3.lt
      rcases Own.add_some hh with ⟨rfl, _⟩ | hh
      · exact i2.lt
      have := h.here k r hh; omega

/-- What SyncDir leaves. -/
def SyncedDir (own : Own) (a : Nat) (D : DiskA) (w : World) (e : Ending) (w' : World) : Prop :=
  (∃ own', Steps own own' w w' ∧ (D.begin true).2 ≠ 0 ∧ e = .returned (.int .i64 (D.begin true).2) ∧ DiskIs w' own' a (D.begin true).1) ∨
  ((D.begin true).2 = 0 ∧ e = .returned (.int .i64 0) ∧ Settled own a D.laid.length (D.begin true).1 w w')

set_option maxRecDepth 100000 in
theorem syncDir_any (own : Own) (a : Nat) (D : DiskA) (w : World) (h : DiskIs w own a D) (hok : D.Ok) (ho : D.ops < 4611686018427387904) (hl : D.left < 4611686018427387904) (hlen : D.laid.length < 1000000) (ht : ∀ o ∈ D.laid, o.told = true) :
    Calls Tryz.prog 9 #[.pointer (some ⟨a, 0, none⟩)] w (SyncedDir own a D w) := by
  have hc := begin_any own a D true w h ho hl
  have hbl : (D.begin true).1.laid = D.laid := (DiskA.begin_same D true).2.2.1
  by_cases he : (D.begin true).2 = 0
  · have HOK := Lib.hid (DiskA.begin_ok hok true)
    have HC := Lib.hid hc; have HBL := Lib.hid hbl; have HE := Lib.hid he; have HLEN := Lib.hid hlen; have HT := Lib.hid ht
    clear hc hbl he h hok ho hl hlen ht
    go_enter Tryz.func9, Tryz.ntmps9
    go_wp2_with fail
    refine HC.out.mono ?_
    rintro e w1 ⟨rfl, hd1, hs1⟩
    rw [HE.out]
    obtain ⟨ms, mk, mf, lv, k1, k2⟩ := hd1.out
    obtain ⟨p, c, rfl⟩ : ∃ p c, lv = .slice p (D.begin true).1.laid.length c := by
      rcases k2.laid.2 with ⟨h, h0⟩ | ⟨g, c, _, h, _⟩
      · exact ⟨none, 0, by rw [h, h0]⟩
      · exact ⟨_, c, h⟩
    have c6 : w1.cell? ⟨a, 6, none⟩ = some (.slice p (D.begin true).1.laid.length c) := cells_of k1 6
    have hst := settle_any own a (D.begin true).1.laid.length (D.begin true).1 w1 hd1 HOK.out (Nat.le_refl _) (by rw [HBL.out]; exact HLEN.out) (by rw [HBL.out]; exact HT.out)
    have HST := Lib.hid hst; have HS1 := Lib.hid hs1; have HD1 := Lib.hid hd1
    clear hst hs1 hd1 k1 k2
    go_wp2_with fail
    refine HST.out.mono ?_
    rintro e w2 ⟨rfl, hset⟩
    have hfin : SyncedDir own a D w (.returned (.int .i64 0)) w2 := by
      obtain ⟨own', fm', q1, q2, q3⟩ := hset
      refine .inr ⟨HE.out, rfl, own', fm', HS1.out.trans q1, ?_, ?_⟩
      · rw [HBL.out] at q2; exact q2
      · rw [HBL.out] at q3; rw [HBL.out]; exact q3
    have HFIN := Lib.hid hfin
    clear hset hfin c6
    go_wp2
    go_ret
    exact HFIN.out
  · have hc0 : ∃ x : Int, (D.begin true).2 = x ∧ x ≠ 0 := ⟨_, rfl, he⟩
    obtain ⟨x, hx, hx0⟩ := hc0
    have HC := Lib.hid hc; have HX := Lib.hid hx; have HE := Lib.hid he
    clear hc hbl he h hok ho hl hlen ht hx
    go_enter Tryz.func9, Tryz.ntmps9
    go_wp2_with fail
    refine HC.out.mono ?_
    rintro e w1 ⟨rfl, hd1, hs1⟩
    rw [HX.out]
    have hxb : (x == 0) = false := beq_eq_false_iff_ne.2 hx0
    clear hx0
    have HD1 := Lib.hid hd1; have HS1 := Lib.hid hs1
    clear hd1 hs1
    go_wp2
    go_ret
    exact .inl ⟨own, HS1.out, HE.out, by rw [HX.out]; rfl, HD1.out⟩
end Go.Proofs.YtldkeelgnfegeaaGreat

/- The disk: its names, rising. -/
namespace Go.Proofs.YtldkeelgnfegeaaGreat
open Go Go.RowKit Go.By Go.Maps Go.Sort Go.MapKept Go.WideElems

/-- A map of names, as the library's contracts speak of it. -/
theorem own_names {w : World} {b : Nat} {m : List (ByteArray × Nat)} (h : Mp.Is w b strV natV m) (hs : ∀ p ∈ m, p.1.size ≤ maxLen) (hm : m.length ≤ 1000000) :
    ∃ (D0 : DataW Unit) (nn : Nat), w.ownsMap Tryz.prog 9 (fun _ => some (DataW.nil, [])) b nn D0 ∧ (strKeys D0).Perm (m.map fun p => p.1.data.toList) ∧ Maps.size D0 = m.length := by
  have hst : Tryz.prog.underlying 9 = some .string := by kernel_rfl
  obtain ⟨⟨l, clock, hW, hl, hb1, hb2⟩, hn⟩ := h
  let R : Value → Option (DataW Unit × List MemPlace) := fun _ => some (DataW.nil, [])
  have hlen : l.toList.length = m.length := hl.length
  have hrd : ∀ (j : Nat) (x : MapEntry), l.toList[j]? = some x → ∃ p, m[j]? = some p ∧ rd Tryz.prog 9 R x = some (.string p.1.data.toList, .nil) := by
    intro j x hx
    obtain ⟨p, hp, hk, _⟩ := hl.at hx
    have hsz := hs p (List.mem_of_getElem? hp)
    refine ⟨p, hp, ?_⟩
    have hk' : x.key = .string p.1 := hk
    show (keyOf Tryz.prog 9 x.key).bind (fun key => (R x.val).map fun y => (key, y.1)) = _
    simp [keyOf, mapKey, hst, hk', R, hsz]
  have hrg : (l.toList.map (rg Tryz.prog 9 R)) = m.map fun p => (Lit.string p.1.data.toList, DataW.nil) := by
    apply List.ext_getElem?
    intro j
    simp only [List.getElem?_map]
    cases hx : l.toList[j]? with
    | none =>
      have : m[j]? = none := by
        rw [List.getElem?_eq_none_iff] at hx ⊢; omega
      simp [this]
    | some x =>
      obtain ⟨p, hp, hr⟩ := hrd j x hx
      simp [hp, rg, hr]
  refine ⟨.map ((l.toList.map (rg Tryz.prog 9 R)).foldr DataW.insert []), l.size, ⟨l, clock, hW, ⟨?_, ?_, ?_⟩, Nat.le_refl _, rfl⟩, ?_, ?_⟩
  · have : l.size ≤ 1000000 := by rw [← Array.length_toList, hlen]; exact hm
    unfold maxLen; omega
  · rw [stamped_iff]
    refine ⟨hb1, hb2, ?_⟩
    have hkeys : l.toList.map (·.key) = m.map fun p => Value.string p.1 := by
      have := congrArg (List.map (·.1)) hl
      simpa [Mp.Lies, List.map_map, Function.comp_def, strV] using this
    have : (l.toList.map (·.key)).Pairwise (· ≠ ·) := by
      rw [hkeys, List.pairwise_map]
      have hn' : m.Pairwise fun p q => p.1 ≠ q.1 := by
        have := hn
        unfold List.Nodup at this
        rwa [List.pairwise_map] at this
      refine hn'.imp ?_
      intro a b hab he
      apply hab
      simpa using he
    rwa [List.pairwise_map] at this
  · intro x hx
    obtain ⟨j, hj⟩ := List.mem_iff_getElem?.1 hx
    obtain ⟨p, _, hr⟩ := hrd j x hj
    exact ⟨_, hr⟩
  · simp only [strKeys]
    have := (WideShapes.sorted_perm (l.toList.map (rg Tryz.prog 9 R))).map fun p => strOf p.1
    refine this.trans ?_
    rw [hrg, List.map_map]
    exact List.Perm.refl _
  · rw [Maps.size_eq, (WideShapes.sorted_perm _).length_eq]
    rw [List.length_map, hlen]

/-- The names of a row of names, sorted. -/
def sortedNames (m : List (ByteArray × Nat)) : List (List UInt8) := (m.map fun p => p.1.data.toList).mergeSort (fun x y => decide (x ≤ y))

theorem leU_trans (x y z : List UInt8) : decide (x ≤ y) = true → decide (y ≤ z) = true → decide (x ≤ z) = true := by
  simp only [decide_eq_true_eq]; exact fun h1 h2 => List.le_trans h1 h2
theorem leU_total (x y : List UInt8) : (decide (x ≤ y) || decide (y ≤ x)) = true := by
  simp only [Bool.or_eq_true, decide_eq_true_eq]; exact List.le_total x y

theorem sorted_unique {l1 l2 : List (List UInt8)} (hp : l1.Perm l2) : l1.mergeSort (fun x y => decide (x ≤ y)) = l2.mergeSort (fun x y => decide (x ≤ y)) := by
  have q1 := List.pairwise_mergeSort (le := fun x y : List UInt8 => decide (x ≤ y)) leU_trans leU_total l1
  have q2 := List.pairwise_mergeSort (le := fun x y : List UInt8 => decide (x ≤ y)) leU_trans leU_total l2
  have hp2 : (l1.mergeSort (fun x y => decide (x ≤ y))).Perm (l2.mergeSort (fun x y => decide (x ≤ y))) := (List.mergeSort_perm l1 _).trans (hp.trans (List.mergeSort_perm l2 _).symm)
  exact List.Perm.eq_of_pairwise (fun a b _ _ h1 h2 => by simp only [decide_eq_true_eq] at h1 h2; exact List.le_antisymm h1 h2) q1 q2 hp2

set_option maxRecDepth 100000 in
theorem keys_any (r : Option Nat) (w : World) : Calls Tryz.prog 40 #[.map r] w fun e w' => e = .returned (.func (.func 66) #[] #[.pointer (some ⟨w.heap.size, 0, none⟩)]) ∧ w' = w.alloc (.cells #[.map r] 51) := by
  go_enter Tryz.func40, Tryz.ntmps40
  go_wp2
  go_ret
  exact ⟨rfl, rfl⟩

set_option maxRecDepth 100000 in
theorem list_any (own : Own) (a : Nat) (D : DiskA) (w : World) (h : DiskIs w own a D) (hs : ∀ p ∈ D.seen, p.1.size ≤ maxLen) (hm : D.seen.length ≤ 1000000) :
    Calls Tryz.prog 17 #[.pointer (some ⟨a, 0, none⟩)] w fun e w' => ∃ v, e = .returned v ∧ w'.ownsRow w.heap.size 9 1 v D.seen.length ((sortedNames D.seen).map encStr) ∧ (v = .slice none 0 0 ↔ D.seen = []) ∧ Below w.heap.size w w' := by
  obtain ⟨ms, mk, mf, lv, h1, h2⟩ := h.out
  have c4 : w.cell? ⟨a, 4, none⟩ = some ms := cells_of h1 4
  have hlt : a < w.heap.size := h.here a _ h.role
  have HS := Lib.hid hs; have HM := Lib.hid hm; have H2 := Lib.hid h2
  clear h1 h2 h hs hm
  go_enter Tryz.func17, Tryz.ntmps17
  obtain ⟨rm, rfl⟩ : ∃ r, ms = .map r := by
    rcases H2.out.seen with ⟨h, _⟩ | ⟨b, h, _⟩
    · exact ⟨_, h⟩
    · exact ⟨_, h⟩
  go_wp2_with fail
  refine (keys_any rm w).mono ?_
  rintro e w1 ⟨rfl, hw1⟩
  have hcell : w1.cell? ⟨w.heap.size, 0, none⟩ = some (.map rm) := by rw [hw1]; exact World.cell?_alloc_new w _ _ 0
  have hz : w1.heap.size = w.heap.size + 1 := by rw [hw1]; simp
  have hb1 : Below w.heap.size w w1 := by rw [hw1]; exact (Below.refl _ _).alloc (Nat.le_refl _) _
  clear hw1
  have hcall : Calls Tryz.prog 39 #[.func (.func 66) #[] #[.pointer (some ⟨w.heap.size, 0, none⟩)]] w1 fun e w' => ∃ (v : Value), e = .returned v ∧ w'.ownsRow w.heap.size 9 1 v D.seen.length ((sortedNames D.seen).map encStr) ∧ (v = .slice none 0 0 ↔ D.seen = []) ∧ Below w.heap.size w w' := by
    rcases H2.out.seen with ⟨he, hs0⟩ | ⟨b, he, _, hmb⟩ <;> cases he
    · refine (Tryz.sorted_keys_nil_at w.heap.size w1 hcell (by omega)).mono ?_
      rintro e w2 ⟨v, ss, rfl, rfl, hown, hnil, hb2⟩
      have hvn := hnil.2 rfl
      subst hvn
      exact ⟨_, rfl, by rw [hs0, show (sortedNames []).map encStr = [] by simp [sortedNames]]; exact World.ownsRow_nil _ _ _ _, by simp [hs0], hb1.trans (hb2.mono (by omega))⟩
    · have hmb1 : Mp.Is w1 b strV natV D.seen := hmb.of_heap (hb1.block b hmb.lt)
      obtain ⟨D0, nn, ho, hperm, hsz⟩ := own_names hmb1 HS.out HM.out
      refine (Tryz.sorted_keys_at w.heap.size b nn D0 _ w1 ho hcell (by omega) (by rw [hsz]; have := HM.out; unfold maxLen; omega) (by rw [hsz]; have := HM.out; omega)).mono ?_
      rintro e w2 ⟨v, ss, rfl, hp, hown, hnil, hb2⟩
      have hpp := hp.trans hperm
      have hll : ss.length = D.seen.length := by rw [hpp.length_eq, List.length_map]
      refine ⟨v, rfl, ?_, ?_, hb1.trans (hb2.mono (by omega))⟩
      · have he : ss.mergeSort (fun x y => decide (x ≤ y)) = sortedNames D.seen := sorted_unique hpp
        rw [he, hll] at hown
        refine ⟨hown.1, ?_⟩
        rcases hown.2 with hh | ⟨g, c, cur, q1, q2, q3⟩
        · exact .inl hh
        · exact .inr ⟨g, c, cur, q1, by omega, q3⟩
      · rw [hnil]
        constructor
        · intro h0; rw [h0] at hll; exact List.eq_nil_of_length_eq_zero hll.symm
        · intro h0; rw [h0] at hll; exact List.eq_nil_of_length_eq_zero hll
  have HC := Lib.hid hcall
  clear hcall hcell hz hb1 c4 hlt
  go_wp2_with fail
  refine HC.out.mono ?_
  rintro e w2 ⟨v, rfl, hown, hnil, hb⟩
  have HO := Lib.hid hown; have HN := Lib.hid hnil; have HB := Lib.hid hb
  clear hown hnil hb
  go_wp2
  go_ret
  exact ⟨_, rfl, HO.out, HN.out, HB.out⟩
end Go.Proofs.YtldkeelgnfegeaaGreat

/- What is left of bytes behind a crash: where nothing was laid again, the byte is the one that lasted; never fewer. Lists only. -/
namespace Go.Proofs.YtldkeelgnfegeaaGreat
open Go Go.By

theorem atB_getD (l : List Nat) (i : Nat) : atB l i = (l[i]?).getD 0 := by
  unfold atB; rw [List.getD_eq_getElem?_getD]
theorem atB_fit {l : List Nat} {n : Nat} (h : l.length ≤ n) (i : Nat) : atB (fitL l n) i = atB l i := by
  rw [fitL_more h, atB_getD, atB_getD, List.getElem?_append]
  split
  · rfl
  · rename_i hi
    rw [List.getElem?_replicate, List.getElem?_eq_none (by omega)]
    split <;> rfl
theorem atB_over {l p : List Nat} {off : Nat} (h : off + p.length ≤ l.length) (i : Nat) : atB (overL l off p) i = if off ≤ i ∧ i < off + p.length then atB p (i - off) else atB l i := by
  unfold overL
  rw [atB_getD, atB_getD, atB_getD, List.getElem?_append]
  have ht : (l.take off).length = off := by simp; omega
  rw [ht]
  by_cases h1 : i < off
  · rw [if_pos h1, if_neg (by omega), List.getElem?_take, if_pos h1]
  · rw [if_neg h1, List.getElem?_append]
    by_cases h2 : i - off < p.length
    · rw [if_pos h2, if_pos (by omega)]
    · rw [if_neg h2, if_neg (by omega), List.getElem?_drop]
      congr 2; omega
theorem atB_put {l p : List Nat} {off : Nat} (i : Nat) : atB (putL l off p) i = if off ≤ i ∧ i < off + p.length then atB p (i - off) else atB l i := by
  unfold putL
  by_cases h : l.length < off + p.length
  · rw [if_pos h, atB_over (by rw [fitL_length]; exact Nat.le_refl _), atB_fit (by omega)]
  · rw [if_neg h, atB_over (by omega)]

theorem piece_length {off : Nat} {b : List Nat} {at_ : Nat} (h : at_ < b.length) : ((b.drop at_).take (pieceLen off b.length at_)).length = pieceLen off b.length at_ := by
  rw [List.length_take, List.length_drop]
  have := pieceLen_le off b.length at_
  omega

/-- Whatever survives of a write: outside of it the bytes are as they were, and no fewer. -/
theorem redoWrite_out {off : Nat} {b : List Nat} {bit : Nat → Bool} : ∀ (fuel at_ i : Nat) (l : List Nat),
    (∀ k, (k < off ∨ off + b.length ≤ k) → atB (redoWrite off b bit fuel at_ i l).1 k = atB l k) ∧ l.length ≤ (redoWrite off b bit fuel at_ i l).1.length ∧ (redoWrite off b bit fuel at_ i l).1.length ≤ max l.length (off + b.length)
  | 0, at_, i, l => ⟨fun _ _ => rfl, Nat.le_refl _, Nat.le_max_left _ _⟩
  | fuel + 1, at_, i, l => by
    unfold redoWrite
    by_cases h : at_ < b.length
    · rw [if_pos h]
      have hp := piece_length (off := off) h
      have hle := pieceLen_le off b.length at_
      obtain ⟨h1, h2, h3⟩ := redoWrite_out (off := off) (b := b) (bit := bit) fuel (at_ + pieceLen off b.length at_) (i + 1) (if bit i then putL l (off + at_) ((b.drop at_).take (pieceLen off b.length at_)) else l)
      by_cases hb : bit i = true
      · simp only [hb, if_true] at h1 h2 h3 ⊢
        rw [putL_length, hp] at h2 h3
        refine ⟨fun k hk => ?_, by omega, by omega⟩
        rw [h1 k hk, atB_put, hp, if_neg (by omega)]
      · simp only [hb] at h1 h2 h3 ⊢
        exact ⟨h1, h2, h3⟩
    · rw [if_neg h]
      exact ⟨fun _ _ => rfl, Nat.le_refl _, Nat.le_max_left _ _⟩

/-- A write of which all survives. -/
theorem redoWrite_all {off : Nat} {b : List Nat} : ∀ (fuel at_ i : Nat) (l : List Nat), b.length ≤ at_ + fuel → at_ < b.length →
    (∀ k, atB (redoWrite off b allBits fuel at_ i l).1 k = if off + at_ ≤ k ∧ k < off + b.length then atB b (k - off) else atB l k) ∧ (redoWrite off b allBits fuel at_ i l).1.length = max l.length (off + b.length)
  | 0, at_, i, l, hf, ha => by omega
  | fuel + 1, at_, i, l, hf, ha => by
    unfold redoWrite
    rw [if_pos ha]
    have hp := piece_length (off := off) ha
    have hle := pieceLen_le off b.length at_
    have hpos := pieceLen_pos (off := off) ha
    have hb : allBits i = true := rfl
    simp only [hb, if_true]
    have hput : ∀ k, atB (putL l (off + at_) ((b.drop at_).take (pieceLen off b.length at_))) k = if off + at_ ≤ k ∧ k < off + at_ + pieceLen off b.length at_ then atB b (k - off) else atB l k := fun k => by
      rw [atB_put, hp]
      split
      · rename_i hk
        rw [atB_take (by omega), atB_getD, atB_getD, List.getElem?_drop]
        congr 2; omega
      · rfl
    by_cases hn : at_ + pieceLen off b.length at_ < b.length
    · obtain ⟨h1, h2⟩ := redoWrite_all (off := off) (b := b) fuel (at_ + pieceLen off b.length at_) (i + 1) (putL l (off + at_) ((b.drop at_).take (pieceLen off b.length at_))) (by omega) hn
      refine ⟨fun k => ?_, by rw [h2, putL_length, hp]; omega⟩
      rw [h1 k, hput k]
      by_cases hk : off + (at_ + pieceLen off b.length at_) ≤ k ∧ k < off + b.length
      · rw [if_pos hk, if_pos (by omega)]
      · rw [if_neg hk]
        by_cases hk2 : off + at_ ≤ k ∧ k < off + at_ + pieceLen off b.length at_
        · rw [if_pos hk2, if_pos (by omega)]
        · rw [if_neg hk2, if_neg (by omega)]
    · have he : at_ + pieceLen off b.length at_ = b.length := by omega
      have hstop : redoWrite off b allBits fuel (at_ + pieceLen off b.length at_) (i + 1) (putL l (off + at_) ((b.drop at_).take (pieceLen off b.length at_))) = (putL l (off + at_) ((b.drop at_).take (pieceLen off b.length at_)), i + 1) := by
        cases fuel with
        | zero => rfl
        | succ f => unfold redoWrite; rw [if_neg hn]
      rw [hstop]
      refine ⟨fun k => ?_, by show (putL _ _ _).length = _; rw [putL_length, hp]; omega⟩
      show atB (putL _ _ _) k = _
      rw [hput k]
      by_cases hk2 : off + at_ ≤ k ∧ k < off + b.length
      · rw [if_pos (by omega), if_pos hk2]
      · rw [if_neg (by omega), if_neg hk2]

/-- The writes: places and bytes. -/
def writeOps (l : List (Nat × List Nat)) : List ByteOp := l.map fun p => .write p.1 p.2
/-- A place that some write covers. -/
def coveredBy (l : List (Nat × List Nat)) (k : Nat) : Prop := ∃ p ∈ l, p.1 ≤ k ∧ k < p.1 + p.2.length
theorem redoOps_out {bit : Nat → Bool} {m : Nat} : ∀ (ws : List (Nat × List Nat)) (i : Nat) (l : List Nat), (∀ p ∈ ws, p.1 + p.2.length ≤ m) →
    (∀ k, ¬ coveredBy ws k → atB (redoOps bit (writeOps ws) i l).1 k = atB l k) ∧ l.length ≤ (redoOps bit (writeOps ws) i l).1.length ∧ (redoOps bit (writeOps ws) i l).1.length ≤ max l.length m
  | [], i, l, _ => ⟨fun _ _ => rfl, Nat.le_refl _, Nat.le_max_left _ _⟩
  | p :: ws, i, l, hm => by
    have hw : redoOps bit (writeOps (p :: ws)) i l = redoOps bit (writeOps ws) (redoWrite p.1 p.2 bit p.2.length 0 i l).2 (redoWrite p.1 p.2 bit p.2.length 0 i l).1 := rfl
    rw [hw]
    obtain ⟨a1, a2, a3⟩ := redoWrite_out (off := p.1) (b := p.2) (bit := bit) p.2.length 0 i l
    obtain ⟨b1, b2, b3⟩ := redoOps_out (bit := bit) ws (redoWrite p.1 p.2 bit p.2.length 0 i l).2 (redoWrite p.1 p.2 bit p.2.length 0 i l).1 (fun q hq => hm q (List.mem_cons_of_mem _ hq))
    have hp := hm p (List.mem_cons_self ..)
    refine ⟨fun k hk => ?_, by omega, by omega⟩
    rw [b1 k (fun ⟨q, hq, h⟩ => hk ⟨q, List.mem_cons_of_mem _ hq, h⟩), a1 k]
    by_cases h1 : k < p.1
    · exact .inl h1
    · by_cases h2 : p.1 + p.2.length ≤ k
      · exact .inr h2
      · exact absurd ⟨p, List.mem_cons_self .., by omega, by omega⟩ hk

theorem redoOps_append (bit : Nat → Bool) : ∀ (a b : List ByteOp) (i : Nat) (l : List Nat), redoOps bit (a ++ b) i l = redoOps bit b (redoOps bit a i l).2 (redoOps bit a i l).1
  | [], _, _, _ => rfl
  | o :: a, b, i, l => redoOps_append bit a b _ _
end Go.Proofs.YtldkeelgnfegeaaGreat

/- Arguments that are rows of rows of bytes, opened. -/
namespace Go.By
open Go Go.RowKit Go.ChangeShapes Go.WideShapes Go.ChangeAt Go.Deep

theorem bytes_of_trod {H : Type} {enc : TypeId × Value → H} {P : Program} {W : World} {base : Nat} {t e : TypeId} (T : ByT P t e) (hc : P.cellsOf e = 1) {fuel : Nat} {v : Value} {x : DataW H × List MemPlace}
    (hf : DataW.trod enc P W base (fun _ => true) true fuel t [v] = some x) : ∃ l : List Nat, Bytes W v l := by
  rcases open_ints T.slice T.elem hc hf with ⟨hcs, hx⟩ | ⟨a, len, cap, zs, hcs, _, hl, hm, hz, hx, hcell, hwz⟩
  · simp only [List.cons.injEq, and_true] at hcs
    subst hcs
    exact ⟨[], Bytes.nil W⟩
  · simp only [List.cons.injEq, and_true] at hcs
    subst hcs
    simp only [if_true] at hz
    have hlen : ((zs.take len).map Int.toNat).length = len := by simp; omega
    refine ⟨(zs.take len).map Int.toNat, ⟨?_, ?_, ?_⟩⟩
    · by_cases h0 : zs.length = 0
      · have h1 : cap = 0 := by omega
        have h2 : len = 0 := by omega
        subst h1 h2
        exact .inr (.inl ⟨a, rfl, by simp⟩)
      · obtain ⟨ab, ao, spot⟩ := a
        have hspot : spot = none := by simpa [Addr.add] using World.cell?_spot (hcell 0 (by omega))
        subst hspot
        refine .inr <| .inr ⟨ab, ao, cap, by rw [hlen], by rw [hlen]; exact hl, fun i hi => ?_⟩
        rw [hlen] at hi
        have hci := hcell i (by omega)
        rw [Addr.add_lit] at hci
        rw [hci]
        have hm := hwz (zs.getD i 0) (by rw [List.getD_eq_getElem?_getD, List.getElem?_eq_getElem (by omega)]; exact List.getElem_mem _)
        obtain ⟨n, hn, _⟩ := u8_of_wf hm
        rw [atB_of (by rw [hlen]; exact hi)]
        rw [List.getElem_map, List.getElem_take]
        have e : zs.getD i 0 = zs[i]'(by omega) := by rw [List.getD_eq_getElem?_getD, List.getElem?_eq_getElem (by omega)]; rfl
        rw [e] at hn ⊢
        rw [hn]; rfl
    · intro c hc
      obtain ⟨z, hz', rfl⟩ := List.mem_map.1 hc
      obtain ⟨n, hn, hlt⟩ := u8_of_wf (hwz z (List.mem_of_mem_take hz'))
      omega
    · rw [hlen]; omega

/-- The rows of an argument. -/
structure BodyRow (w : World) (p : Option Addr) (n cap : Nat) (T : Nat → Value × List Nat) : Prop where
  le : n ≤ cap
  most : cap ≤ maxLen
  at_ : ∀ i, i < n → ∃ lb lo, p = some ⟨lb, lo, none⟩ ∧ w.cell? ⟨lb, lo + i, none⟩ = some (T i).1
  wf : ∀ i, i < n → Bytes w (T i).1 (T i).2
theorem BodyRow.below {w w' : World} {p : Option Addr} {n cap : Nat} {T : Nat → Value × List Nat} (h : BodyRow w p n cap T) (hb : Below w.heap.size w w') : BodyRow w' p n cap T := by
  refine ⟨h.le, h.most, fun i hi => ?_, fun i hi => (h.wf i hi).below hb⟩
  obtain ⟨lb, lo, h1, c0⟩ := h.at_ i hi
  exact ⟨lb, lo, h1, (hb.cell (p := ⟨lb, _, none⟩) (block_lt_of_cell c0)).trans c0⟩

theorem open_rows {H : Type} {enc : TypeId × Value → H} {P : Program} {W : World} {base b0 : Nat} {t e te : TypeId} (ht : P.underlying t = some (.slice e)) (ce : P.cellsOf e = 1) (T : ByT P e te) (cte : P.cellsOf te = 1) {v : Value} {d : DataW H} {ps : List MemPlace}
    (hval : Value.okWide P W .any b0 t v) (h : DataW.Trod enc P W base (fun _ => true) true t v d ps) :
    ∃ (p : Option Addr) (n cap : Nat) (T : Nat → Value × List Nat), v = .slice p n cap ∧ BodyRow W p n cap T := by
  obtain ⟨p, len, cap, rfl⟩ := okWide_slice ht hval
  obtain ⟨fuel, hf⟩ := h
  have hcs0 : (Value.slice p len cap).cells.toList = [.slice p len cap] := by simp [Value.cells]
  rw [hcs0] at hf
  rcases open_slice1 ht ce hf with ⟨h0, _⟩ | ⟨a, len', cap', m, n, V, D, Pl, h1, _, hl, hm, hmm, _, hx⟩
  · simp only [List.cons.injEq, Value.slice.injEq, and_true] at h0
    obtain ⟨rfl, rfl, rfl⟩ := h0
    exact ⟨none, 0, 0, fun _ => (.slice none 0 0, []), rfl, Nat.le_refl _, Nat.zero_le _, fun i hi => by omega, fun i hi => by omega⟩
  · simp only [List.cons.injEq, Value.slice.injEq, and_true] at h1
    obtain ⟨rfl, rfl, rfl⟩ := h1
    simp only [if_true] at hmm
    have each : ∀ i, i < len → ∃ l : List Nat, Bytes W (V i) l := fun i hi => bytes_of_trod T cte (hx i (by omega)).2
    refine ⟨some a, len, cap, fun i => (V i, if h : i < len then (each i h).choose else []), rfl, hl, hm, fun i hi => ?_, fun i hi => ?_⟩
    · obtain ⟨ab, ao, spot⟩ := a
      have h00 := (hx 0 (by omega)).1
      have hspot : spot = none := by
        have hs := World.cell?_spot h00
        simpa [Addr.add] using hs
      subst hspot
      refine ⟨ab, ao, rfl, ?_⟩
      have hh := (hx i (by omega)).1
      simp only [Addr.add_lit] at hh
      exact hh
    · simp only [dif_pos hi]
      exact (each i hi).choose_spec
theorem BodyRow.body {w : World} {lb lo n cap i : Nat} {T : Nat → Value × List Nat} (h : BodyRow w (some ⟨lb, lo, none⟩) n cap T) (hi : i < n) :
    ∃ q c, w.cell? ⟨lb, lo + i, none⟩ = some (.slice q (T i).2.length c) ∧ Bytes w (.slice q (T i).2.length c) (T i).2 := by
  obtain ⟨lb', lo', h1, h2⟩ := h.at_ i hi
  simp only [Option.some.injEq, Addr.mk.injEq, true_and, and_true] at h1
  obtain ⟨rfl, rfl⟩ := h1
  have hw := h.wf i hi
  obtain ⟨q, c, hv, _⟩ := hw.any
  rw [hv] at h2 hw
  exact ⟨q, c, h2, hw⟩
end Go.By

/- The disk as a file sees it: what each operation makes of it, as functions; the numbers of its tables are left out. -/
namespace Go.Proofs.YtldkeelgnfegeaaGreat
open Go Go.RowKit Go.By

structure Sk where
  room : Int
  used : Int
  ops : Nat
  left : Nat
  made : Nat
  seen : List (ByteArray × Nat)
  kept : List (ByteArray × Nat)
  laid : List NameOp
  cont : Nat → FileA
def DiskA.sk (D : DiskA) : Sk := ⟨D.room, D.used, D.ops, D.left, D.made, D.seen, D.kept, D.laid, D.cont⟩
def Sk.tick (S : Sk) : Sk := { S with ops := S.ops + 1, left := S.left - 1 }
def Sk.err (S : Sk) (may : Bool) : Int := if S.left = 1 then 5 else if may then 0 else 1
theorem sk_begin (D : DiskA) (m : Bool) : (D.begin m).1.sk = D.sk.tick ∧ (D.begin m).2 = D.sk.err m := by
  unfold DiskA.begin Sk.err
  by_cases h : D.left = 1
  · rw [if_pos h, if_pos (show D.sk.left = 1 from h)]
    refine ⟨?_, rfl⟩
    show (⟨D.room, D.used, D.ops + 1, 0, D.made, D.seen, D.kept, D.laid, D.cont⟩ : Sk) = ⟨D.room, D.used, D.ops + 1, D.left - 1, D.made, D.seen, D.kept, D.laid, D.cont⟩
    rw [h]
  · rw [if_neg h, if_neg (show ¬ D.sk.left = 1 from h)]
    exact ⟨rfl, rfl⟩
def Sk.hasRoom (S : Sk) (n : Nat) (size : Int) : Bool := decide (size - ((S.cont n).seen.length : Int) ≤ 0) || decide (size - ((S.cont n).seen.length : Int) ≤ S.room - S.used)
def Sk.withFile (S : Sk) (n : Nat) (F : FileA) : Sk := { S with cont := fun k => if k = n then F else S.cont k }
def Sk.alterFile (S : Sk) (n : Nat) (o : ByteOp) : Sk := { S.withFile n ((S.cont n).alter o) with used := S.used + (S.cont n).more o }
/-- An operation on a file that has to be there. -/
def Sk.onFile (S : Sk) (s : ByteArray) (may : Bool) (f : Sk → Nat → Sk × Int) : Sk × Int :=
  if S.err (may && mayName s) ≠ 0 then (S.tick, S.err (may && mayName s)) else
    match Mp.get S.seen s with
    | none => (S.tick, 3)
    | some n => f S.tick n
def Sk.writeAt (off : Int) (b : List Nat) (T : Sk) (n : Nat) : Sk × Int :=
  if b = [] then (T, 0) else if T.hasRoom n (off + b.length) then (T.alterFile n (.write off.toNat b), 0) else (T, 4)
def Sk.cutAt (size : Int) (T : Sk) (n : Nat) : Sk × Int := if T.hasRoom n size then (T.alterFile n (.cut size.toNat), 0) else (T, 4)
def Sk.write (S : Sk) (s : ByteArray) (off : Int) (b : List Nat) : Sk × Int := S.onFile s (mayNumber off) (Sk.writeAt off b)
def Sk.truncate (S : Sk) (s : ByteArray) (size : Int) : Sk × Int := S.onFile s (mayNumber size) (Sk.cutAt size)
def Sk.sync (S : Sk) (s : ByteArray) : Sk × Int := S.onFile s true fun T n => (T.withFile n (T.cont n).settle, 0)
def Sk.create (S : Sk) (s : ByteArray) : Sk × Int :=
  if S.err (mayName s) ≠ 0 then (S.tick, S.err (mayName s)) else if (Mp.get S.seen s).isSome then (S.tick, 8) else
    ({ S.tick.withFile (S.made + 1) ⟨[], [], []⟩ with made := S.made + 1, seen := Mp.put S.seen s (S.made + 1), laid := S.laid ++ [.create s (S.made + 1)] }, 0)
def Sk.size (S : Sk) (s : ByteArray) : Option Nat := (Mp.get S.seen s).map fun n => (S.cont n).seen.length
def Sk.read (S : Sk) (s : ByteArray) (off n : Int) : List Nat × Int :=
  if S.err ((mayNumber off && mayNumber n) && mayName s) ≠ 0 then ([], S.err ((mayNumber off && mayNumber n) && mayName s)) else
    match Mp.get S.seen s with
    | none => ([], 3)
    | some k => if ((S.cont k).seen.length : Int) < off + n then ([], 2) else (((S.cont k).seen.drop off.toNat).take n.toNat, 0)

/-- Nothing is too great. -/
structure Sk.Fine (S : Sk) : Prop where
  ops : S.ops < 4611686018427387904
  left : S.left < 4611686018427387904
  made : S.made < 1000000
  laid : S.laid.length < 1000000
  few : ∀ n, (S.cont n).laid.length < 1000000
  short : ∀ n, (S.cont n).seen.length ≤ 1099511627776
  room : 0 ≤ S.room ∧ S.room ≤ 9223372036854775807
  used : 0 ≤ S.used ∧ S.used ≤ 4611686018427387904

/-- The disk S lies at a, behind all that was there in W. -/
structure Dsk (W : World) (a : Nat) (S : Sk) (own : Own) (w : World) : Prop where
  out : ∃ D, DiskIs w own a D ∧ D.Ok ∧ D.sk = S
  far : ∀ k r, own k = some r → W.heap.size ≤ k
  below : Below W.heap.size W w
theorem Dsk.here {W w : World} {a : Nat} {S : Sk} {own : Own} (h : Dsk W a S own w) : ∀ k r, own k = some r → k < w.heap.size := let ⟨_, hd, _⟩ := h.out; hd.here
theorem Dsk.role {W w : World} {a : Nat} {S : Sk} {own : Own} (h : Dsk W a S own w) : own a = some .disk := let ⟨_, hd, _⟩ := h.out; hd.role
theorem Dsk.new_none {W w : World} {a : Nat} {S : Sk} {own : Own} (h : Dsk W a S own w) {k : Nat} (hk : w.heap.size ≤ k) : own k = none := by
  cases e : own k with
  | none => rfl
  | some r => have := h.here k r e; omega
theorem Dsk.of_steps {W w w' : World} {a : Nat} {S S' : Sk} {own own' : Own} (h : Dsk W a S own w) (hs : Steps own own' w w') (ho : ∃ D, DiskIs w' own' a D ∧ D.Ok ∧ D.sk = S') : Dsk W a S' own' w' := by
  refine ⟨ho, fun k r hk => ?_, h.below.trans (hs.below h.below.size h.far)⟩
  by_cases hl : k < w.heap.size
  · rw [hs.same k hl] at hk; exact h.far k r hk
  · have := h.below.size; omega
theorem Dsk.stay {W w w' : World} {a : Nat} {S : Sk} {own : Own} (h : Dsk W a S own w) (hb : Below w.heap.size w w') : Dsk W a S own w' := by
  refine h.of_steps (Steps.of_below hb) ?_
  obtain ⟨D, hd, hok, e⟩ := h.out
  exact ⟨D, hd.beside (o1 := fun _ => none) (o2 := fun _ => none) (Steps.of_below hb) (fun _ _ _ => .inl rfl), hok, e⟩
/-- What is turned is not the disk's. -/
theorem Dsk.set {W w : World} {a : Nat} {S : Sk} {own : Own} (h : Dsk W a S own w) {g : Nat} (hn : own g = none) (hf : W.heap.size ≤ g) (j : Nat) (v : Value) : Dsk W a S own (w.setCell ⟨g, j, none⟩ v) := by
  have hst : Steps (fun k => if k = g then some .disk else none) (fun k => if k = g then some .disk else none) w (w.setCell ⟨g, j, none⟩ v) :=
    ⟨rfl, rfl, rfl, by simp [World.setCell], fun k _ ho => by
      have hne : k ≠ g := by
        intro e; subst e
        rw [if_pos rfl] at ho
        rcases ho with h | h <;> cases h
      exact Below.heap_setCell _ _ _ _ hne, fun _ _ => rfl⟩
  obtain ⟨D, hd, hok, e⟩ := h.out
  exact ⟨⟨D, hd.beside hst (fun k r hr => .inl (if_neg (by intro e; subst e; rw [hn] at hr; cases hr))), hok, e⟩, h.far, h.below.setCell hf v⟩

theorem Dsk.new {w w' : World} {R : Int} (hd : DiskIs w' (fun k => if k = w.heap.size then some .disk else none) w.heap.size (DiskA.new R)) (hb : Below w.heap.size w w') :
    Dsk w w.heap.size (DiskA.new R).sk (fun k => if k = w.heap.size then some .disk else none) w' :=
  ⟨⟨_, hd, DiskA.new_ok R, rfl⟩, fun k r hk => (by
    have hk' : (if k = w.heap.size then some Role.disk else none) = some r := hk
    split at hk'
    · omega
    · cases hk'), hb⟩

theorem filed_sk {W w w' : World} {a : Nat} {D : DiskA} {own : Own} {s : ByteArray} {m : Bool} {e : Ending} {f : Sk → Nat → Sk × Int} {post : Nat → Int → DiskA → Prop} (h : Dsk W a D.sk own w) (hok : D.Ok)
    (hp : ∀ n x D2, Mp.get (D.begin (m && mayName s)).1.seen s = some n → post n x D2 → D2.Ok ∧ (D2.sk, x) = f D.sk.tick n)
    (hc : Filed own a (D.begin (m && mayName s)).1 (D.begin (m && mayName s)).2 s post w e w') :
    e = .returned (.int .i64 (D.sk.onFile s m f).2) ∧ ∃ own', Steps own own' w w' ∧ Dsk W a (D.sk.onFile s m f).1 own' w' := by
  obtain ⟨own', hs, hc⟩ := hc
  obtain ⟨e1, e2⟩ := sk_begin D (m && mayName s)
  have e3 : (D.begin (m && mayName s)).1.seen = D.sk.seen := congrArg Sk.seen e1
  have hok1 := DiskA.begin_ok hok (m && mayName s)
  unfold Sk.onFile
  rcases hc with ⟨h1, rfl, hd⟩ | ⟨h1, h2, rfl, hd⟩ | ⟨h1, n, x, D2, h2, h3, rfl, hd⟩
  · rw [e2] at h1 ⊢
    rw [if_pos h1]
    exact ⟨rfl, own', hs, h.of_steps hs ⟨_, hd, hok1, e1⟩⟩
  · rw [e2] at h1
    rw [e3] at h2
    rw [if_neg (by rw [h1]; decide), h2]
    exact ⟨rfl, own', hs, h.of_steps hs ⟨_, hd, hok1, e1⟩⟩
  · obtain ⟨h4, h5⟩ := hp n x D2 h2 h3
    rw [e2] at h1
    rw [e3] at h2
    rw [if_neg (by rw [h1]; decide), h2]
    dsimp only
    rw [← h5]
    exact ⟨rfl, own', hs, h.of_steps hs ⟨_, hd, h4, rfl⟩⟩

theorem Dsk.write {W w : World} {a : Nat} {S : Sk} {own : Own} (h : Dsk W a S own w) (hF : S.Fine) (s : ByteArray) (hs : s.size ≤ maxLen) (off : Int) {bv : Value} {b : List Nat} (hb : Bytes w bv b) (hbk : b ≠ [] → ∀ k, bv.ownBlock = some k → own k = none ∨ own k = some .ink) (hbl : b.length ≤ 1048576) :
    Calls Tryz.prog 55 #[.pointer (some ⟨a, 0, none⟩), .string s, .int .i64 off, bv] w fun e w' => e = .returned (.int .i64 (S.write s off b).2) ∧ ∃ own', Steps own own' w w' ∧ Dsk W a (S.write s off b).1 own' w' := by
  have h0 := h
  obtain ⟨D, hd, hok, rfl⟩ := h.out
  refine (write_any own a D s off bv b w hd hok hF.ops hF.left hs hF.few hF.room hF.used hF.short hb hbk hbl).mono fun e w' hc => filed_sk h0 hok (fun n x D2 _ hp => ?_) hc
  obtain ⟨e1, _⟩ := sk_begin D (mayNumber off && mayName s)
  have hok1 := DiskA.begin_ok hok (mayNumber off && mayName s)
  generalize (D.begin (mayNumber off && mayName s)).1 = D1 at *
  rw [← e1]
  unfold Sk.writeAt
  rcases hp with ⟨rfl, rfl, rfl⟩ | ⟨h1, h2, rfl, rfl⟩ | ⟨h1, h2, rfl, rfl⟩
  · exact ⟨hok1, by rw [if_pos rfl]⟩
  · exact ⟨hok1, by rw [if_neg h1, if_neg (by rw [show D2.sk.hasRoom n (off + b.length) = D2.hasRoom n (off + b.length) from rfl, h2]; decide)]⟩
  · exact ⟨DiskA.used_ok (DiskA.withFile_ok hok1 _ _) _, by rw [if_neg h1, if_pos (show D1.sk.hasRoom n (off + b.length) = true from h2)]; rfl⟩

theorem Dsk.truncate {W w : World} {a : Nat} {S : Sk} {own : Own} (h : Dsk W a S own w) (hF : S.Fine) (s : ByteArray) (hs : s.size ≤ maxLen) (size : Int) :
    Calls Tryz.prog 22 #[.pointer (some ⟨a, 0, none⟩), .string s, .int .i64 size] w fun e w' => e = .returned (.int .i64 (S.truncate s size).2) ∧ ∃ own', Steps own own' w w' ∧ Dsk W a (S.truncate s size).1 own' w' := by
  have h0 := h
  obtain ⟨D, hd, hok, rfl⟩ := h.out
  refine (truncate_any own a D s size w hd hok hF.ops hF.left hs hF.few hF.room hF.used hF.short).mono fun e w' hc => filed_sk h0 hok (fun n x D2 _ hp => ?_) hc
  obtain ⟨e1, _⟩ := sk_begin D (mayNumber size && mayName s)
  have hok1 := DiskA.begin_ok hok (mayNumber size && mayName s)
  generalize (D.begin (mayNumber size && mayName s)).1 = D1 at *
  rw [← e1]
  unfold Sk.cutAt
  rcases hp with ⟨h2, rfl, rfl⟩ | ⟨h2, rfl, rfl⟩
  · exact ⟨hok1, by rw [if_neg (by rw [show D2.sk.hasRoom n size = D2.hasRoom n size from rfl, h2]; decide)]⟩
  · exact ⟨DiskA.used_ok (DiskA.withFile_ok hok1 _ _) _, by rw [if_pos (show D1.sk.hasRoom n size = true from h2)]; rfl⟩

theorem Dsk.sync {W w : World} {a : Nat} {S : Sk} {own : Own} (h : Dsk W a S own w) (hF : S.Fine) (s : ByteArray) (hs : s.size ≤ maxLen) :
    Calls Tryz.prog 29 #[.pointer (some ⟨a, 0, none⟩), .string s] w fun e w' => e = .returned (.int .i64 (S.sync s).2) ∧ ∃ own', Steps own own' w w' ∧ Dsk W a (S.sync s).1 own' w' := by
  have h0 := h
  obtain ⟨D, hd, hok, rfl⟩ := h.out
  refine (sync_any own a D s w hd hok hF.ops hF.left hs (fun n => Nat.le_of_lt (hF.few n))).mono fun e w' hc => filed_sk (m := true) h0 hok (fun n x D2 _ hp => ?_) (by rw [Bool.true_and]; exact hc)
  obtain ⟨e1, _⟩ := sk_begin D (mayName s)
  have hok1 := DiskA.begin_ok hok (mayName s)
  have hc : D.cont = (D.begin (mayName s)).1.cont := (D.begin_same _).2.2.2.2.1.symm
  obtain ⟨rfl, rfl⟩ := hp
  rw [hc, ← e1]
  exact ⟨DiskA.withFile_ok hok1 _ _, rfl⟩

theorem made_ok {D : DiskA} (h : D.Ok) (s : ByteArray) (fb : Nat) : (D.create s fb).Ok := by
  have hfm : ∀ n, (Mp.get (Mp.put D.fm (D.made + 1) fb) n).isSome = true ↔ n = D.made + 1 ∨ (Mp.get D.fm n).isSome = true := fun n => by
    rw [Mp.get_put]
    by_cases e : D.made + 1 = n
    · subst e; simp
    · rw [if_neg e]
      constructor
      · exact .inr
      · rintro (h | h)
        · exact absurd h.symm e
        · exact h
  refine ⟨fun t n hn => ?_, fun t n hn => ?_, fun t n hn => ?_, fun n hn => ?_⟩
  · refine (hfm n).2 ?_
    have hn' : Mp.get (Mp.put D.seen s (D.made + 1)) t = some n := hn
    rw [Mp.get_put] at hn'
    split at hn'
    · cases hn'; exact .inl rfl
    · exact .inr (h.seenIn t n hn')
  · exact (hfm n).2 (.inr (h.keptIn t n hn))
  · refine (hfm n).2 ?_
    have hn' : NameOp.create t n ∈ D.laid ++ [.create s (D.made + 1)] := hn
    rcases List.mem_append.1 hn' with h1 | h1
    · exact .inr (h.laidIn t n h1)
    · rw [List.mem_singleton] at h1
      cases h1; exact .inl rfl
  · have hn' := (hfm n).1 hn
    show n ≤ D.made + 1
    rcases hn' with h1 | h1
    · omega
    · have := h.made n h1; omega

theorem Dsk.create {W w : World} {a : Nat} {S : Sk} {own : Own} (h : Dsk W a S own w) (hF : S.Fine) (s : ByteArray) (hs : s.size ≤ maxLen) :
    Calls Tryz.prog 21 #[.pointer (some ⟨a, 0, none⟩), .string s] w fun e w' => e = .returned (.int .i64 (S.create s).2) ∧ ∃ own', Steps own own' w w' ∧ Dsk W a (S.create s).1 own' w' := by
  obtain ⟨D, hd, hok, rfl⟩ := h.out
  refine (create_any own a D s w hd hok hF.ops hF.left hs hF.laid hF.made).mono ?_
  rintro e w' ⟨own', hst, hc⟩
  obtain ⟨e1, e2⟩ := sk_begin D (mayName s)
  have hok1 := DiskA.begin_ok hok (mayName s)
  have hseen : D.seen = D.sk.seen := rfl
  unfold Sk.create
  rcases hc with ⟨h1, rfl, hd'⟩ | ⟨h1, h2, rfl, hd'⟩ | ⟨h1, h2, rfl, fb, hd'⟩
  · rw [e2] at h1 ⊢
    rw [if_pos h1]
    exact ⟨rfl, own', hst, h.of_steps hst ⟨_, hd', hok1, e1⟩⟩
  · rw [e2] at h1
    rw [hseen] at h2
    rw [if_neg (by rw [h1]; decide), if_pos h2]
    exact ⟨rfl, own', hst, h.of_steps hst ⟨_, hd', hok1, e1⟩⟩
  · rw [e2] at h1
    rw [hseen] at h2
    rw [if_neg (by rw [h1]; decide), if_neg (by rw [h2]; decide)]
    refine ⟨rfl, own', hst, h.of_steps hst ⟨_, hd', made_ok hok1 _ _, ?_⟩⟩
    have q := fun (f : Sk → Sk) => congrArg f e1
    generalize (D.begin (mayName s)).1 = D1 at *
    have r : ((D1.create s fb).sk) = { D1.sk.withFile (D1.sk.made + 1) ⟨[], [], []⟩ with made := D1.sk.made + 1, seen := Mp.put D1.sk.seen s (D1.sk.made + 1), laid := D1.sk.laid ++ [.create s (D1.sk.made + 1)] } := rfl
    rw [r, e1]; rfl

theorem Dsk.size {W w : World} {a : Nat} {S : Sk} {own : Own} (h : Dsk W a S own w) (s : ByteArray) :
    Calls Tryz.prog 34 #[.pointer (some ⟨a, 0, none⟩), .string s] w fun e w' => e = .returned (sizeV (S.size s)) ∧ w = w' := by
  obtain ⟨D, hd, hok, rfl⟩ := h.out
  exact size_any own a D s w hd hok

theorem Dsk.read {W w : World} {a : Nat} {S : Sk} {own : Own} (h : Dsk W a S own w) (hF : S.Fine) (s : ByteArray) (hs : s.size ≤ maxLen) (off n : Int) :
    Calls Tryz.prog 41 #[.pointer (some ⟨a, 0, none⟩), .string s, .int .i64 off, .int .i64 n] w fun e w' => ∃ p c, e = .returned (.tuple #[.slice p (S.read s off n).1.length c, .int .i64 (S.read s off n).2]) ∧
      w'.ownsRow w.heap.size 5 1 (.slice p (S.read s off n).1.length c) (S.read s off n).1.length (cellsOf (S.read s off n).1) ∧ ((S.read s off n).2 ≠ 0 → p = none ∧ c = 0) ∧ Steps own own w w' ∧ Dsk W a S.tick own w' := by
  obtain ⟨D, hd, hok, rfl⟩ := h.out
  refine (read_any own a D s off n w hd hok hF.ops hF.left hs hF.short).mono ?_
  rintro e w' ⟨hst, hd', hc⟩
  obtain ⟨e1, e2⟩ := sk_begin D ((mayNumber off && mayNumber n) && mayName s)
  have hok1 := DiskA.begin_ok hok ((mayNumber off && mayNumber n) && mayName s)
  have hD := h.of_steps hst ⟨_, hd', hok1, e1⟩
  have e3 : (D.begin ((mayNumber off && mayNumber n) && mayName s)).1.seen = D.sk.seen := congrArg Sk.seen e1
  have e4 : (D.begin ((mayNumber off && mayNumber n) && mayName s)).1.cont = D.sk.cont := congrArg Sk.cont e1
  rw [e2, e3, e4] at hc
  unfold Sk.read
  rcases hc with ⟨h1, rfl⟩ | ⟨h1, h2, rfl⟩ | ⟨h1, h2, h3, k, h4, h5⟩
  · rw [if_pos h1]
    exact ⟨none, 0, rfl, World.ownsRow_nil _ _ _ _, fun _ => ⟨rfl, rfl⟩, hst, hD⟩
  · rw [if_neg (by rw [h1]; decide), h2]
    exact ⟨none, 0, rfl, World.ownsRow_nil _ _ _ _, fun _ => ⟨rfl, rfl⟩, hst, hD⟩
  · rw [if_neg (by rw [h1]; decide), h4]
    dsimp only
    rcases h5 with ⟨h6, rfl⟩ | ⟨h6, v, rfl, hown⟩
    · rw [if_pos h6]
      exact ⟨none, 0, rfl, World.ownsRow_nil _ _ _ _, fun _ => ⟨rfl, rfl⟩, hst, hD⟩
    · rw [if_neg (by omega)]
      dsimp only
      have hl : (((D.sk.cont k).seen.drop off.toNat).take n.toNat).length = n.toNat := by simp; omega
      rw [← hl] at hown
      have hsh : ∃ p c, v = .slice p (((D.sk.cont k).seen.drop off.toNat).take n.toNat).length c := by
        rcases hown.2 with ⟨h, h2⟩ | ⟨g, c, _, h, _⟩
        · exact ⟨none, 0, by rw [h, h2]⟩
        · exact ⟨_, c, h⟩
      obtain ⟨p, c, rfl⟩ := hsh
      rw [hl] at hown
      rw [hl]
      exact ⟨p, c, rfl, hown, fun h => absurd rfl h, hst, hD⟩
end Go.Proofs.YtldkeelgnfegeaaGreat

/- A file of a disk: what it is in memory; what is asked of it without an operation; records and slots, put. -/
namespace Go.Proofs.YtldkeelgnfegeaaGreat
open Go Go.RowKit Go.By

/-- A row of one's own: where it lies. -/
theorem own_shape {w : World} {base : Nat} {v : Value} {l : List Nat} (h : w.ownsRow base 5 1 v l.length (cellsOf l)) : ∃ p c, v = .slice p l.length c ∧ ∀ k, (Value.slice p l.length c).ownBlock = some k → base ≤ k ∧ k < w.heap.size := by
  rcases h.2 with ⟨h1, h2⟩ | ⟨g, c, cur, h1, h2, h3, h4⟩
  · exact ⟨none, 0, by rw [h1]; congr 1; omega, fun k hk => (by cases hk)⟩
  · refine ⟨_, c, h1, fun k hk => ?_⟩
    cases hk
    exact ⟨by first | exact h2 | exact h3 | exact h4.1 | omega, (Array.getElem?_eq_some_iff.1 (by first | exact h2 | exact h3)).1⟩

theorem recPut (k : Nat) (v : Value) (l : List Nat) (w : World) (hk : k < 256) (hv : Bytes w v l) (hl : l.length ≤ 4096) :
    Calls Tryz.prog 56 #[.int .u8 k, v] w fun e w' => ∃ p c, e = .returned (.tuple #[.slice p (recOf k l).length c, .int .i64 0]) ∧ Bytes w' (.slice p (recOf k l).length c) (recOf k l) ∧ (∀ j, (Value.slice p (recOf k l).length c).ownBlock = some j → w.heap.size ≤ j) ∧ Below w.heap.size w w' := by
  refine (Rc.put_any k v l w hk hv hl).mono ?_
  rintro e w' ⟨v', rfl, ho, hb⟩
  obtain ⟨p, c, rfl, hg⟩ := own_shape ho
  exact ⟨p, c, rfl, Bytes.of_owns ho (recOf_small hk hv.small) (by rw [recOf_length]; unfold maxLen; omega), fun j hj => (hg j hj).1, hb⟩
theorem recTake (k : Nat) (b m : List Nat) (sv : Value) (w : World) (hk : k < 256) (hb : b.length ≤ 4096) (hm : m.length ≤ 1048576) (hs : ∀ c ∈ b, c < 256) (hsv : Bytes w sv (recOf k b ++ m)) :
    Calls Tryz.prog 36 #[sv] w fun e w' => ∃ p c, e = .returned (.tuple #[.int .u8 k, .slice p b.length c, .int .i64 (9 + b.length : Nat), .int .i64 0]) ∧ Bytes w' (.slice p b.length c) b ∧ Below w.heap.size w w' := by
  refine (Rc.take_any sv _ w hsv (by rw [List.length_append, recOf_length]; omega)).mono ?_
  rintro e w' ⟨v, hbw, h⟩
  rw [if_pos (isRec_rec hk hb hs), kind_rec, bodyLen_rec k b m hb, body_rec] at h
  obtain ⟨p, c, rfl, _⟩ := own_shape h.2
  exact ⟨p, c, h.1, Bytes.of_owns h.2 hs (by unfold maxLen; omega), hbw⟩
theorem slotPut (g : Nat) (v : Value) (l : List Nat) (w : World) (hg : g < 18446744073709551616) (hv : Bytes w v l) (hl : l.length ≤ 113) :
    Calls Tryz.prog 62 #[.int .u64 g, v] w fun e w' => ∃ p c, e = .returned (.tuple #[.slice p (slotOf g l).length c, .int .i64 0]) ∧ Bytes w' (.slice p (slotOf g l).length c) (slotOf g l) ∧ (∀ j, (Value.slice p (slotOf g l).length c).ownBlock = some j → w.heap.size ≤ j) ∧ Below w.heap.size w w' := by
  refine (Sl.put_any g v l w hg hv hl).mono ?_
  rintro e w' ⟨rfl, hF⟩
  have h3 := hF.sec (slotOf_length hl) (slotOf_small hl hv.small)
  rw [slotOf_length hl]
  exact ⟨_, _, rfl, h3.1, fun j hj => (by cases hj; exact Nat.le_refl _), hF.2⟩

/-- The file of the name s on the disk at a, in its block g; E is what it knows to have been written. -/
structure Fil (W : World) (g a : Nat) (s : ByteArray) (E : Nat) (own : Own) (w : World) : Prop where
  cells : w.heap[g]? = some (.cells #[.pointer (some ⟨a, 0, none⟩), .string s, .int .i64 E] 59 (0, 0))
  free : own g = none
  far : W.heap.size ≤ g
theorem Fil.lt {W w : World} {g a : Nat} {s : ByteArray} {E : Nat} {own : Own} (h : Fil W g a s E own w) : g < w.heap.size := (Array.getElem?_eq_some_iff.1 h.cells).1
theorem Fil.steps {W w w' : World} {g a : Nat} {s : ByteArray} {E : Nat} {own own' : Own} (h : Fil W g a s E own w) (hs : Steps own own' w w') : Fil W g a s E own' w' :=
  ⟨(hs.block g h.lt (.inl h.free)).trans h.cells, (hs.same g h.lt).trans h.free, h.far⟩
theorem Fil.stay {W w w' : World} {g a : Nat} {s : ByteArray} {E : Nat} {own : Own} (h : Fil W g a s E own w) (hb : Below w.heap.size w w') : Fil W g a s E own w' := h.steps (Steps.of_below hb)
theorem Fil.same {W w w' : World} {g a : Nat} {s : ByteArray} {E : Nat} {own : Own} (h : Fil W g a s E own w) (hk : w'.heap[g]? = w.heap[g]?) : Fil W g a s E own w' := ⟨hk.trans h.cells, h.free, h.far⟩

set_option maxRecDepth 100000 in
theorem isNone_any {W w : World} {g a : Nat} {s : ByteArray} {E : Nat} {own : Own} (h : Fil W g a s E own w) :
    Calls Tryz.prog 28 #[.pointer (some ⟨g, 0, none⟩)] w fun e w' => e = .returned (.bool false) ∧ w = w' := by
  have c0 := cells_of h.cells 0
  clear h
  go_enter Tryz.func28, Tryz.ntmps28
  go_wp2
  go_ret
  exact ⟨rfl, rfl⟩
set_option maxRecDepth 100000 in
theorem isNone_nil (w : World) : Calls Tryz.prog 28 #[.pointer none] w fun e w' => e = .returned (.bool true) ∧ w = w' := by
  go_enter Tryz.func28, Tryz.ntmps28
  go_wp2
  go_ret
  exact ⟨rfl, rfl⟩

set_option maxRecDepth 100000 in
theorem name_any {W w : World} {g a : Nat} {s : ByteArray} {E : Nat} {own : Own} (h : Fil W g a s E own w) :
    Calls Tryz.prog 18 #[.pointer (some ⟨g, 0, none⟩)] w fun e w' => e = .returned (.string s) ∧ w = w' := by
  have HN := Lib.hid (isNone_any h)
  have c1 := cells_of h.cells 1
  clear h
  go_enter Tryz.func18, Tryz.ntmps18
  go_wp2_with fail
  refine HN.out.mono ?_
  rintro e w1 ⟨rfl, rfl⟩
  go_wp2
  go_ret
  exact ⟨rfl, rfl⟩

/-- Where the next record goes. -/
def endAt (S : Sk) (s : ByteArray) (E : Nat) : Nat := max E ((S.size s).getD 0)
set_option maxRecDepth 100000 in
theorem end_any {W w : World} {g a : Nat} {s : ByteArray} {E : Nat} {S : Sk} {own : Own} (hD : Dsk W a S own w) (h : Fil W g a s E own w) :
    Calls Tryz.prog 20 #[.pointer (some ⟨g, 0, none⟩)] w fun e w' => e = .returned (.int .i64 (endAt S s E)) ∧ ∃ m, w' = w.drewN m := by
  have HN := Lib.hid (isNone_any h)
  have c0 := cells_of h.cells 0
  have c1 := cells_of h.cells 1
  have c2 := cells_of h.cells 2
  have hs : ∀ n, Calls Tryz.prog 34 #[.pointer (some ⟨a, 0, none⟩), .string s] (w.drewN n) fun e w' => e = .returned (sizeV (S.size s)) ∧ w' = w.drewN n := fun n => (Dsk.size (w := w.drewN n) (hD.stay (Sl.below_drewN w n)) s).mono fun _ _ h => ⟨h.1, h.2.symm⟩
  have HS := Lib.hid hs
  have HE : Hid (endAt S s E = max E ((S.size s).getD 0)) := rfl
  clear h hD hs
  cases hz : S.size s with
  | none =>
    rw [hz] at HS HE
    unfold sizeV at HS
    clear hz
    go_enter Tryz.func20, Tryz.ntmps20
    go_wp2_with (go_at_call 28; refine HN.out.mono ?_; rintro e w1 ⟨rfl, rfl⟩)
    go_quiet ((go_at_call 34; exact Calls.quiet_of_same (HS.out _)))
    go_wp2
    go_ret
    exact ⟨by rw [HE.out]; simp, _, rfl⟩
  | some n =>
    rw [hz] at HS HE
    unfold sizeV at HS
    clear hz
    go_enter Tryz.func20, Tryz.ntmps20
    go_wp2_with (go_at_call 28; refine HN.out.mono ?_; rintro e w1 ⟨rfl, rfl⟩)
    go_quiet ((go_at_call 34; exact Calls.quiet_of_same (HS.out _)))
    go_wp2
    all_goals
      go_ret
      exact ⟨by rw [HE.out, Option.getD_some]; first | rw [Nat.max_eq_right (by omega)]; rfl | rw [Nat.max_eq_left (by omega)]; rfl, _, rfl⟩

theorem below_same {w w0 : World} (e1 : w0.heap = w.heap) (e2 : w0.os = w.os) (e3 : w0.tape = w.tape) (e4 : w0.output = w.output) : Below w.heap.size w w0 := ⟨e2, e3, e4, by rw [e1]; exact Nat.le_refl _, fun _ _ => by rw [e1]⟩
theorem Fil.at_ {W w : World} {g a : Nat} {s : ByteArray} {E : Nat} {own : Own} (h : Fil W g a s E own w) : w.cell? ⟨g, 0, none⟩ = some (.pointer (some ⟨a, 0, none⟩)) ∧ w.cell? ⟨g, 1, none⟩ = some (.string s) ∧ w.cell? ⟨g, 2, none⟩ = some (.int .i64 E) := ⟨cells_of h.cells 0, cells_of h.cells 1, cells_of h.cells 2⟩

theorem Dsk.write_held {W w : World} {g a : Nat} {s : ByteArray} {E : Nat} {S : Sk} {own : Own} (h : Dsk W a S own w) (hf : Fil W g a s E own w) (hF : S.Fine) (hs : s.size ≤ maxLen) (off : Int) {bv : Value} {b : List Nat} (hb : Bytes w bv b) (hbk : b ≠ [] → ∀ k, bv.ownBlock = some k → own k = none ∨ own k = some .ink) (hbl : b.length ≤ 1048576) :
    ∀ w0 : World, w0.heap = w.heap → w0.os = w.os → w0.tape = w.tape → w0.output = w.output → Calls Tryz.prog 55 #[.pointer (some ⟨a, 0, none⟩), .string s, .int .i64 off, bv] w0 fun e w' => e = .returned (.int .i64 (S.write s off b).2) ∧
      w'.cell? ⟨g, 0, none⟩ = some (.pointer (some ⟨a, 0, none⟩)) ∧ w'.cell? ⟨g, 1, none⟩ = some (.string s) ∧ ∃ own', Steps own own' w w' ∧ Dsk W a (S.write s off b).1 own' w' := by
  intro w0 e1 e2 e3 e4
  have hb0 := below_same e1 e2 e3 e4
  refine ((h.stay hb0).write hF s hs off (hb.below hb0) hbk hbl).mono ?_
  rintro e w' ⟨rfl, own', hst, hd⟩
  have hf' := (hf.stay hb0).steps hst
  exact ⟨rfl, hf'.at_.1, hf'.at_.2.1, own', (Steps.of_below hb0).trans hst, hd⟩

set_option maxRecDepth 100000 in
theorem recordPut (k : Nat) (v : Value) (l : List Nat) (w : World) (hk : k < 256) (hv : Bytes w v l) (hl : l.length ≤ 4096) :
    Calls Tryz.prog 27 #[.agg #[.int .u8 k, v]] w fun e w' => ∃ p c, e = .returned (.tuple #[.slice p (recOf k l).length c, .int .i64 0]) ∧ Bytes w' (.slice p (recOf k l).length c) (recOf k l) ∧ (∀ j, (Value.slice p (recOf k l).length c).ownBlock = some j → w.heap.size ≤ j) ∧ Below w.heap.size w w' := by
  have HP := Lib.hid (recPut k v l (w.alloc (.cells #[.int .u8 k, v] 65)) hk (hv.below ((Below.refl _ _).alloc (Nat.le_refl _) _)) hl)
  have hlt := fun (i : Nat) (x : Value) (h : #[Value.int .u8 k, v][i]? = some x) => (cells_of (heap_alloc_new w (.cells #[Value.int .u8 k, v] 65)) i).trans h
  have h0 := hlt 0 _ rfl
  have h1 := hlt 1 _ rfl
  clear hv hlt
  go_enter Tryz.func27, Tryz.ntmps27
  go_wp2_with fail
  refine HP.out.mono ?_
  rintro e w1 ⟨p, c, rfl, hb1, hfar, hbw⟩
  have hz : w.heap.size + 1 = (w.alloc (.cells #[Value.int .u8 k, v] 65)).heap.size := by simp
  have HFIN : Hid (Bytes w1 (.slice p (recOf k l).length c) (recOf k l) ∧ (∀ j, (Value.slice p (recOf k l).length c).ownBlock = some j → w.heap.size ≤ j) ∧ Below w.heap.size w w1) :=
    ⟨hb1, fun j hj => by have := hfar j hj; omega, ((Below.refl w.heap.size w).alloc (Nat.le_refl _) _).trans (hbw.mono (by omega))⟩
  clear hb1 hfar hbw hz HP h0 h1
  go_wp2
  go_ret2
  exact ⟨p, c, rfl, HFIN.out⟩
set_option maxRecDepth 100000 in
theorem layRec_any {W w : World} {g a : Nat} {s : ByteArray} {E : Nat} {S : Sk} {own : Own} (hD : Dsk W a S own w) (h : Fil W g a s E own w) (hF : S.Fine) (hs : s.size ≤ maxLen) (off : Int) (k : Nat) (hk : k < 256) {bv : Value} {b : List Nat} (hb : Bytes w bv b) (hbl : b.length ≤ 4096) :
    Calls Tryz.prog 26 #[.pointer (some ⟨g, 0, none⟩), .int .i64 off, .func (.func 27) #[.agg #[.int .u8 k, bv]] #[]] w fun e w' =>
      e = .returned (.tuple #[.int .i64 (if (S.write s off (recOf k b)).2 = 0 then 9 + b.length else 0 : Nat), .int .i64 (S.write s off (recOf k b)).2]) ∧ ∃ own', Steps own own' w w' ∧ Dsk W a (S.write s off (recOf k b)).1 own' w' := by
  have HN := Lib.hid (isNone_any h)
  have HP := Lib.hid (recordPut k bv b w hk hb hbl)
  have hrl : (recOf k b).length = 9 + b.length := recOf_length k b
  have HW : Hid (∀ w1 p c, Bytes w1 (.slice p (recOf k b).length c) (recOf k b) → (∀ j, (Value.slice p (recOf k b).length c).ownBlock = some j → w.heap.size ≤ j) → Below w.heap.size w w1 → _) := fun w1 p c hb1 hfar hbw => (hD.stay hbw).write_held (h.stay hbw) hF hs off hb1 (fun _ j hj => .inl (hD.new_none (hfar j hj))) (by omega)
  have HH := Lib.hid h
  clear hD h hb hF
  rw [hrl] at HW HP
  have hsb : ∃ S2 x, S.write s off (recOf k b) = (S2, x) := ⟨_, _, rfl⟩
  obtain ⟨S2, x, hR⟩ := hsb
  rw [hR] at HW ⊢
  clear hR
  dsimp only at HW ⊢
  go_enter Tryz.func26, Tryz.ntmps26
  go_wp2_with (go_at_call 28; refine HN.out.mono ?_; rintro e w1 ⟨rfl, rfl⟩)
  refine HP.out.mono ?_
  rintro e w1 ⟨p, c, rfl, hb1, hfar, hbw⟩
  have HW1 := Lib.hid (HW.out w1 p c hb1 hfar hbw)
  obtain ⟨c0, c1, _⟩ := (HH.out.stay hbw).at_
  have HB := Lib.hid hbw
  clear hb1 hfar hbw HN HP HH HW
  go_wp2
  go_region_held3 (fun w' => w'.cell? ⟨g, 0, none⟩ = some (.pointer (some ⟨a, 0, none⟩)) ∧ w'.cell? ⟨g, 1, none⟩ = some (.string s)) (go_keep)
    (first | (go_at_call 55; refine (HW1.out _ (by rfl) (by rfl) (by rfl) (by rfl)).mono ?_; rintro e w2 ⟨rfl, d0, d1, hfin⟩))
  have HFIN : Hid (∃ own', Steps own own' w w2 ∧ Dsk W a S2 own' w2) := let ⟨own', hs, hd⟩ := hfin; ⟨own', (Steps.of_below HB.out).trans hs, hd⟩
  clear hfin HW1 HB
  by_cases hx : x = 0
  · subst hx
    go_wp2
    go_ret2
    exact ⟨rfl, HFIN.out⟩
  · go_wp2
    go_ret2
    exact ⟨rfl, HFIN.out⟩

/-- Append: a record at the end. -/
def appendAt (S : Sk) (s : ByteArray) (E k : Nat) (b : List Nat) : Sk × Int := S.write s (endAt S s E) (recOf k b)
/-- What turned is the disk's, or the file's block. -/
structure Moves (g : Nat) (own own' : Own) (w w' : World) : Prop where
  os : w'.os = w.os
  tape : w'.tape = w.tape
  output : w'.output = w.output
  size : w.heap.size ≤ w'.heap.size
  block : ∀ k, k < w.heap.size → k ≠ g → (own k = none ∨ own k = some .ink) → w'.heap[k]? = w.heap[k]?
  same : ∀ k, k < w.heap.size → own' k = own k
theorem Steps.moves {own own' : Own} {w w' : World} (h : Steps own own' w w') (g : Nat) : Moves g own own' w w' := ⟨h.os, h.tape, h.output, h.size, fun k hk _ ho => h.block k hk ho, h.same⟩
theorem Moves.trans {g : Nat} {o1 o2 o3 : Own} {w1 w2 w3 : World} (h : Moves g o1 o2 w1 w2) (k : Moves g o2 o3 w2 w3) : Moves g o1 o3 w1 w3 :=
  ⟨k.os.trans h.os, k.tape.trans h.tape, k.output.trans h.output, Nat.le_trans h.size k.size,
    fun b hb hg hn => (k.block b (Nat.lt_of_lt_of_le hb h.size) hg (by rw [h.same b hb]; exact hn)).trans (h.block b hb hg hn),
    fun b hb => (k.same b (Nat.lt_of_lt_of_le hb h.size)).trans (h.same b hb)⟩
theorem Moves.refl (g : Nat) (own : Own) (w : World) : Moves g own own w w := ⟨rfl, rfl, rfl, Nat.le_refl _, fun _ _ _ _ => rfl, fun _ _ => rfl⟩
theorem Moves.set (g : Nat) (own : Own) (w : World) (j : Nat) (v : Value) : Moves g own own w (w.setCell ⟨g, j, none⟩ v) :=
  ⟨rfl, rfl, rfl, by simp, fun _ _ hk _ => Below.heap_setCell _ _ _ _ hk, fun _ _ => rfl⟩
theorem Fil.move {W w w' : World} {g g' a : Nat} {s : ByteArray} {E : Nat} {own own' : Own} (h : Fil W g a s E own w) (hs : Moves g' own own' w w') (hne : g ≠ g') : Fil W g a s E own' w' :=
  ⟨(hs.block g h.lt hne (.inl h.free)).trans h.cells, (hs.same g h.lt).trans h.free, h.far⟩

set_option maxRecDepth 100000 in
theorem append_any {W w : World} {g a : Nat} {s : ByteArray} {E : Nat} {S : Sk} {own : Own} (hD : Dsk W a S own w) (h : Fil W g a s E own w) (hF : S.Fine) (hs : s.size ≤ maxLen) (k : Nat) (hk : k < 256) {bv : Value} {b : List Nat} (hb : Bytes w bv b) (hbl : b.length ≤ 4096) (hE : endAt S s E ≤ 1099511627776) :
    Calls Tryz.prog 10 #[.pointer (some ⟨g, 0, none⟩), .int .u8 k, bv] w fun e w' =>
      e = .returned (.tuple #[.int .i64 (if (appendAt S s E k b).2 = 0 then endAt S s E else 0 : Nat), .int .i64 (appendAt S s E k b).2]) ∧ ∃ own', Moves g own own' w w' ∧ Dsk W a (appendAt S s E k b).1 own' w' ∧
        Fil W g a s (if (appendAt S s E k b).2 = 0 then endAt S s E + (9 + b.length) else E) own' w' := by
  obtain ⟨q, cq, rfl, _⟩ := hb.any
  have HE := Lib.hid (end_any hD h)
  have HL : Hid (∀ m, _) := fun m => layRec_any (hD.stay (Sl.below_drewN w m)) (h.stay (Sl.below_drewN w m)) hF hs (endAt S s E) k hk (Sl.bytes_drewN hb m) hbl
  have HH := Lib.hid h
  clear hD h hb hF
  have hsb : ∃ S2 x, S.write s (endAt S s E) (recOf k b) = (S2, x) := ⟨_, _, rfl⟩
  unfold appendAt
  obtain ⟨S2, x, hR⟩ := hsb
  rw [hR] at HL ⊢
  clear hR
  dsimp only at HL ⊢
  obtain ⟨N, hN⟩ : ∃ N, N = endAt S s E := ⟨_, rfl⟩
  rw [← hN] at HE HL hE ⊢
  clear hN
  go_enter Tryz.func10, Tryz.ntmps10
  go_wp2_with fail
  refine HE.out.mono ?_
  rintro e w1 ⟨rfl, m, rfl⟩
  go_wp2_with fail
  refine (HL.out m).mono ?_
  rintro e w2 ⟨rfl, own2, hst, hd⟩
  have hst2 := (Steps.of_below (own := own) (Sl.below_drewN w m)).trans hst
  have hf2 := HH.out.steps hst2
  have c2 := hf2.at_.2.2
  have fz := free_of hf2.cells 2
  have hset : ∀ M : Nat, Moves g own own2 w (w2.setCell ⟨g, 2, none⟩ (.int .i64 M)) ∧ Dsk W a S2 own2 (w2.setCell ⟨g, 2, none⟩ (.int .i64 M)) ∧ Fil W g a s M own2 (w2.setCell ⟨g, 2, none⟩ (.int .i64 M)) := fun M =>
    ⟨(hst2.moves g).trans (Moves.set g own2 w2 2 _), hd.set hf2.free hf2.far 2 _, (set_heap hf2.cells 2 _).1, hf2.free, hf2.far⟩
  have HSET := Lib.hid hset
  have HNO : Hid (Moves g own own2 w w2 ∧ Dsk W a S2 own2 w2 ∧ Fil W g a s E own2 w2) := ⟨hst2.moves g, hd, hf2⟩
  clear hst hd hst2 hf2 hset HE HL HH
  by_cases hx : x = 0
  · subst hx
    have hw : IntKind.i64.wrap ((N : Int) + ((9 + b.length : Nat) : Int)) = ((N + (9 + b.length) : Nat) : Int) := by rw [IntWalk.i64_in _ (by omega)]; omega
    go_wp2
    have hn : (N : Int) + (9 + (b.length : Int)) = ((N + (9 + b.length) : Nat) : Int) := by omega
    rw [hn]
    go_ret2
    exact ⟨rfl, own2, HSET.out _⟩
  · go_wp2
    go_ret2
    exact ⟨rfl, own2, HNO.out⟩
end Go.Proofs.YtldkeelgnfegeaaGreat

/- A file of a disk: what is held; what is read; Sync; Create; Open. -/
namespace Go.Proofs.YtldkeelgnfegeaaGreat
open Go Go.RowKit Go.By

set_option maxRecDepth 100000 in
theorem statePut (k : Nat) (v : Value) (l : List Nat) (w : World) (hk : k < 18446744073709551616) (hv : Bytes w v l) (hl : l.length ≤ 113) :
    Calls Tryz.prog 37 #[.agg #[.int .u64 k, v]] w fun e w' => ∃ p c, e = .returned (.tuple #[.slice p (slotOf k l).length c, .int .i64 0]) ∧ Bytes w' (.slice p (slotOf k l).length c) (slotOf k l) ∧ (∀ j, (Value.slice p (slotOf k l).length c).ownBlock = some j → w.heap.size ≤ j) ∧ Below w.heap.size w w' := by
  have HP := Lib.hid (slotPut k v l (w.alloc (.cells #[.int .u64 k, v] 83)) hk (hv.below ((Below.refl _ _).alloc (Nat.le_refl _) _)) hl)
  have hlt := fun (i : Nat) (x : Value) (h : #[Value.int .u64 k, v][i]? = some x) => (cells_of (heap_alloc_new w (.cells #[Value.int .u64 k, v] 83)) i).trans h
  have h0 := hlt 0 _ rfl
  have h1 := hlt 1 _ rfl
  clear hv hlt
  go_enter Tryz.func37, Tryz.ntmps37
  go_wp2_with fail
  refine HP.out.mono ?_
  rintro e w1 ⟨p, c, rfl, hb1, hfar, hbw⟩
  have hz : w.heap.size + 1 = (w.alloc (.cells #[Value.int .u64 k, v] 83)).heap.size := by simp
  have HFIN : Hid (Bytes w1 (.slice p (slotOf k l).length c) (slotOf k l) ∧ (∀ j, (Value.slice p (slotOf k l).length c).ownBlock = some j → w.heap.size ≤ j) ∧ Below w.heap.size w w1) :=
    ⟨hb1, fun j hj => by have := hfar j hj; omega, ((Below.refl w.heap.size w).alloc (Nat.le_refl _) _).trans (hbw.mono (by omega))⟩
  clear hb1 hfar hbw hz HP h0 h1
  go_wp2
  go_ret2
  exact ⟨p, c, rfl, HFIN.out⟩

set_option maxRecDepth 100000 in
theorem laySlot_any {W w : World} {g a : Nat} {s : ByteArray} {E : Nat} {S : Sk} {own : Own} (hD : Dsk W a S own w) (h : Fil W g a s E own w) (hF : S.Fine) (hs : s.size ≤ maxLen) (off : Int) (k : Nat) (hk : k < 18446744073709551616) {bv : Value} {b : List Nat} (hb : Bytes w bv b) (hbl : b.length ≤ 113) :
    Calls Tryz.prog 26 #[.pointer (some ⟨g, 0, none⟩), .int .i64 off, .func (.func 37) #[.agg #[.int .u64 k, bv]] #[]] w fun e w' =>
      e = .returned (.tuple #[.int .i64 (if (S.write s off (slotOf k b)).2 = 0 then 128 else 0 : Nat), .int .i64 (S.write s off (slotOf k b)).2]) ∧ ∃ own', Steps own own' w w' ∧ Dsk W a (S.write s off (slotOf k b)).1 own' w' := by
  have HN := Lib.hid (isNone_any h)
  have HP := Lib.hid (statePut k bv b w hk hb hbl)
  have hrl : (slotOf k b).length = 128 := slotOf_length hbl
  have HW : Hid (∀ w1 p c, Bytes w1 (.slice p (slotOf k b).length c) (slotOf k b) → (∀ j, (Value.slice p (slotOf k b).length c).ownBlock = some j → w.heap.size ≤ j) → Below w.heap.size w w1 → _) := fun w1 p c hb1 hfar hbw => (hD.stay hbw).write_held (h.stay hbw) hF hs off hb1 (fun _ j hj => .inl (hD.new_none (hfar j hj))) (by omega)
  have HH := Lib.hid h
  clear hD h hb hF
  rw [hrl] at HW HP
  have hsb : ∃ S2 x, S.write s off (slotOf k b) = (S2, x) := ⟨_, _, rfl⟩
  obtain ⟨S2, x, hR⟩ := hsb
  rw [hR] at HW ⊢
  clear hR hrl
  dsimp only at HW ⊢
  go_enter Tryz.func26, Tryz.ntmps26
  go_wp2_with (go_at_call 28; refine HN.out.mono ?_; rintro e w1 ⟨rfl, rfl⟩)
  refine HP.out.mono ?_
  rintro e w1 ⟨p, c, rfl, hb1, hfar, hbw⟩
  have HW1 := Lib.hid (HW.out w1 p c hb1 hfar hbw)
  obtain ⟨c0, c1, _⟩ := (HH.out.stay hbw).at_
  have HB := Lib.hid hbw
  clear hb1 hfar hbw HN HP HH HW
  go_wp2
  go_region_held3 (fun w' => w'.cell? ⟨g, 0, none⟩ = some (.pointer (some ⟨a, 0, none⟩)) ∧ w'.cell? ⟨g, 1, none⟩ = some (.string s)) (go_keep)
    (first | (go_at_call 55; refine (HW1.out _ (by rfl) (by rfl) (by rfl) (by rfl)).mono ?_; rintro e w2 ⟨rfl, d0, d1, hfin⟩))
  have HFIN : Hid (∃ own', Steps own own' w w2 ∧ Dsk W a S2 own' w2) := let ⟨own', hs, hd⟩ := hfin; ⟨own', (Steps.of_below HB.out).trans hs, hd⟩
  clear hfin HW1 HB
  by_cases hx : x = 0
  · subst hx
    go_wp2
    go_ret2
    exact ⟨rfl, HFIN.out⟩
  · go_wp2
    go_ret2
    exact ⟨rfl, HFIN.out⟩

/-- Hold: a slot, at its turn. -/
def holdAt (S : Sk) (s : ByteArray) (k : Nat) (b : List Nat) : Sk × Int := S.write s (k % 2 * 128 : Nat) (slotOf k b)
set_option maxRecDepth 100000 in
theorem hold_any {W w : World} {g a : Nat} {s : ByteArray} {E : Nat} {S : Sk} {own : Own} (hD : Dsk W a S own w) (h : Fil W g a s E own w) (hF : S.Fine) (hs : s.size ≤ maxLen) (k : Nat) (hk : k < 18446744073709551616) {bv : Value} {b : List Nat} (hb : Bytes w bv b) (hbl : b.length ≤ 113) :
    Calls Tryz.prog 15 #[.pointer (some ⟨g, 0, none⟩), .int .u64 k, bv] w fun e w' =>
      e = .returned (.int .i64 (holdAt S s k b).2) ∧ ∃ own', Steps own own' w w' ∧ Dsk W a (holdAt S s k b).1 own' w' ∧ Fil W g a s E own' w' := by
  obtain ⟨q, cq, rfl, _⟩ := hb.any
  have HL := Lib.hid (laySlot_any hD h hF hs (k % 2 * 128 : Nat) k hk hb hbl)
  have HH := Lib.hid h
  clear hD h hb hF
  have hsb : ∃ S2 x, S.write s (k % 2 * 128 : Nat) (slotOf k b) = (S2, x) := ⟨_, _, rfl⟩
  unfold holdAt
  obtain ⟨S2, x, hR⟩ := hsb
  rw [hR] at HL ⊢
  clear hR
  dsimp only at HL ⊢
  go_enter Tryz.func15, Tryz.ntmps15
  have hc : ((k % 2 * 128 : Nat) : Int) = (k : Int) % 2 * 128 := by omega
  rw [hc] at HL
  clear hc
  go_wp2_with fail
  refine HL.out.mono ?_
  rintro e w1 ⟨rfl, own', hst, hd⟩
  have HFIN : Hid (∃ own', Steps own own' w w1 ∧ Dsk W a S2 own' w1 ∧ Fil W g a s E own' w1) := ⟨own', hst, hd, HH.out.steps hst⟩
  clear hst hd HL HH
  go_wp2
  all_goals
    go_ret
    exact ⟨rfl, HFIN.out⟩

/-- What stands from off on, as far as a record may go. -/
def Sk.piece (S : Sk) (s : ByteArray) (off : Int) : List Nat × Int :=
  if (S.read s off (min (max (((S.size s).getD 0 : Nat) - off) 0) 4105)).2 = 1 then ([], 2) else S.read s off (min (max (((S.size s).getD 0 : Nat) - off) 0) 4105)

theorem Dsk.read_held {W w : World} {g a : Nat} {s : ByteArray} {E : Nat} {S : Sk} {own : Own} (h : Dsk W a S own w) (hf : Fil W g a s E own w) (hF : S.Fine) (hs : s.size ≤ maxLen) (off n : Int) :
    ∀ w0 : World, w0.heap = w.heap → w0.os = w.os → w0.tape = w.tape → w0.output = w.output → Calls Tryz.prog 41 #[.pointer (some ⟨a, 0, none⟩), .string s, .int .i64 off, .int .i64 n] w0 fun e w' => ∃ p c, e = .returned (.tuple #[.slice p (S.read s off n).1.length c, .int .i64 (S.read s off n).2]) ∧
      w'.cell? ⟨g, 0, none⟩ = some (.pointer (some ⟨a, 0, none⟩)) ∧ w'.cell? ⟨g, 1, none⟩ = some (.string s) ∧
      w'.ownsRow w.heap.size 5 1 (.slice p (S.read s off n).1.length c) (S.read s off n).1.length (cellsOf (S.read s off n).1) ∧ ((S.read s off n).2 ≠ 0 → p = none ∧ c = 0) ∧ Steps own own w w' ∧ Dsk W a S.tick own w' := by
  intro w0 e1 e2 e3 e4
  have hb0 := below_same e1 e2 e3 e4
  refine ((h.stay hb0).read hF s hs off n).mono ?_
  rintro e w' ⟨p, c, rfl, hown, hz, hst, hd⟩
  have hf' := (hf.stay hb0).steps hst
  rw [e1] at hown
  exact ⟨p, c, rfl, hf'.at_.1, hf'.at_.2.1, hown, hz, (Steps.of_below hb0).trans hst, hd⟩

set_option maxRecDepth 100000 in
theorem from_any {W w : World} {g a : Nat} {s : ByteArray} {E : Nat} {S : Sk} {own : Own} (hD : Dsk W a S own w) (h : Fil W g a s E own w) (hF : S.Fine) (hs : s.size ≤ maxLen) (off : Int) (ho : 0 ≤ off ∧ off ≤ 1099511627776) :
    Calls Tryz.prog 35 #[.pointer (some ⟨g, 0, none⟩), .int .i64 off] w fun e w' => ∃ p c, e = .returned (.tuple #[.slice p (S.piece s off).1.length c, .int .i64 (S.piece s off).2]) ∧
      w'.ownsRow w.heap.size 5 1 (.slice p (S.piece s off).1.length c) (S.piece s off).1.length (cellsOf (S.piece s off).1) ∧ Steps own own w w' ∧ Dsk W a S.tick own w' := by
  obtain ⟨c0, c1, _⟩ := h.at_
  have hsz : ((S.size s).getD 0) ≤ 1099511627776 := by
    unfold Sk.size
    cases hg : Mp.get S.seen s with
    | none => exact Nat.zero_le _
    | some n => exact hF.short n
  obtain ⟨L, hL⟩ : ∃ L, L = (S.size s).getD 0 := ⟨_, rfl⟩
  have hs0 : ∀ n, Calls Tryz.prog 34 #[.pointer (some ⟨a, 0, none⟩), .string s] (w.drewN n) fun e w' => e = .returned (.tuple #[.int .i64 L, .bool (S.size s).isSome]) ∧ w' = w.drewN n := fun n => (Dsk.size (w := w.drewN n) (hD.stay (Sl.below_drewN w n)) s).mono fun _ _ h => ⟨h.1.trans (by rw [hL]; cases S.size s <;> rfl), h.2.symm⟩
  have HS := Lib.hid hs0
  have HR : Hid (∀ m, _) := fun m => (hD.stay (Sl.below_drewN w m)).read_held (h.stay (Sl.below_drewN w m)) hF hs off (min (max ((L : Int) - off) 0) 4105)
  have HP : Hid (S.piece s off = if (S.read s off (min (max ((L : Int) - off) 0) 4105)).2 = 1 then ([], 2) else S.read s off (min (max ((L : Int) - off) 0) 4105)) := by rw [hL]; rfl
  rw [← hL] at hsz
  obtain ⟨n, hn⟩ : ∃ n, n = min (max ((L : Int) - off) 0) 4105 := ⟨_, rfl⟩
  rw [← hn] at HR HP
  have hsb : ∃ l x, S.read s off n = (l, x) := ⟨_, _, rfl⟩
  obtain ⟨l, x, hR⟩ := hsb
  rw [hR] at HR HP
  dsimp only at HR HP
  obtain ⟨bb, hbb⟩ : ∃ bb, bb = (S.size s).isSome := ⟨_, rfl⟩
  rw [← hbb] at HS
  have hw : IntKind.i64.wrap ((L : Int) - off) = (L : Int) - off := IntWalk.i64_in _ (by omega)
  clear hR hL hbb hD h hF hs0
  have hcase : ((L : Int) - off < 0 ∧ n = 0) ∨ (¬ (L : Int) - off < 0 ∧ (L : Int) - off ≤ 4105 ∧ n = (L : Int) - off) ∨ (¬ (L : Int) - off < 0 ∧ ¬ (L : Int) - off ≤ 4105 ∧ n = 4105) := by omega
  clear hn
  rcases hcase with ⟨h1, rfl⟩ | ⟨h1, h2, rfl⟩ | ⟨h1, h2, rfl⟩
  all_goals
    go_enter Tryz.func35, Tryz.ntmps35
    go_wp2_with fail
    go_quiet ((go_at_call 34; exact Calls.quiet_of_same (HS.out _)))
    have HR1 := Lib.hid (HR.out nq)
    have d0 : (w.drewN nq).cell? ⟨g, 0, none⟩ = some (.pointer (some ⟨a, 0, none⟩)) := c0
    have d1 : (w.drewN nq).cell? ⟨g, 1, none⟩ = some (.string s) := c1
    have HQ : Hid (Steps own own w (w.drewN nq)) := Steps.of_below (Sl.below_drewN w nq)
    have hqs : Hid ((w.drewN nq).heap.size = w.heap.size) := rfl
    clear c0 c1 HR
    generalize w.drewN nq = wq at *
    go_wp2
    go_region_held3 (fun w' => w'.cell? ⟨g, 0, none⟩ = some (.pointer (some ⟨a, 0, none⟩)) ∧ w'.cell? ⟨g, 1, none⟩ = some (.string s)) (go_keep)
      (first | (go_at_call 41; refine (HR1.out _ (by rfl) (by rfl) (by rfl) (by rfl)).mono ?_; rintro e w2 ⟨p, c, rfl, e0, e1, hown, hz, hst, hd⟩))
    rw [hqs.out] at hown
    have HFIN : Hid (w2.ownsRow w.heap.size 5 1 (.slice p l.length c) l.length (cellsOf l) ∧ Steps own own w w2 ∧ Dsk W a S.tick own w2) := ⟨hown, HQ.out.trans hst, hd⟩
    clear hown hst hd HR1 HQ
    by_cases hx : x = 1
    · subst hx
      rw [if_pos rfl] at HP
      go_wp2
      go_ret2
      rw [HP.out]
      exact ⟨none, 0, rfl, World.ownsRow_nil _ _ _ _, HFIN.out.2⟩
    · rw [if_neg hx] at HP
      go_wp2
      go_ret2
      rw [HP.out]
      exact ⟨p, c, rfl, HFIN.out⟩
end Go.Proofs.YtldkeelgnfegeaaGreat

/- A file of a disk: Read, Held, Sync, Open. -/
namespace Go.Proofs.YtldkeelgnfegeaaGreat
open Go Go.RowKit Go.By

def tkErr (l : List Nat) : Nat := if isRec l then 0 else 2
def tkKind (l : List Nat) : Nat := if isRec l then atB l 4 else 0
def tkBody (l : List Nat) : List Nat := if isRec l then pc l 5 (bodyLen l) else []
def tkLen (l : List Nat) : Nat := if isRec l then 9 + bodyLen l else 0
theorem tk_rec {k : Nat} {b : List Nat} (m : List Nat) (hk : k < 256) (hb : b.length ≤ 4096) (hs : ∀ c ∈ b, c < 256) :
    tkErr (recOf k b ++ m) = 0 ∧ tkKind (recOf k b ++ m) = k ∧ tkBody (recOf k b ++ m) = b := by
  have h := isRec_rec (m := m) hk hb hs
  unfold tkErr tkKind tkBody
  rw [if_pos h, if_pos h, if_pos h, bodyLen_rec k b m hb, kind_rec, body_rec]
  exact ⟨rfl, rfl, rfl⟩
theorem recTakeAll (sv : Value) (l : List Nat) (w : World) (hsv : Bytes w sv l) (hl : l.length ≤ 17592186044416) :
    Calls Tryz.prog 36 #[sv] w fun e w' => ∃ p c, e = .returned (.tuple #[.int .u8 (tkKind l : Nat), .slice p (tkBody l).length c, .int .i64 (tkLen l : Nat), .int .i64 (tkErr l : Nat)]) ∧ Bytes w' (.slice p (tkBody l).length c) (tkBody l) ∧ (∀ j, (Value.slice p (tkBody l).length c).ownBlock = some j → w.heap.size ≤ j) ∧ Below w.heap.size w w' := by
  refine (Rc.take_any sv l w hsv hl).mono ?_
  rintro e w' ⟨v, hb, h⟩
  unfold tkErr tkKind tkBody tkLen
  cases hr : isRec l
  · rw [hr] at h
    exact ⟨none, 0, h, Bytes.nil _, fun j hj => (by cases hj), hb⟩
  · rw [if_pos hr] at h
    obtain ⟨p, c, rfl, hg⟩ := own_shape h.2
    rw [if_pos rfl, if_pos rfl, if_pos rfl, if_pos rfl]
    exact ⟨p, c, h.1, Bytes.of_owns h.2 (pc_small hsv.small) (by simp only [pc, List.length_take, List.length_drop]; unfold maxLen; omega), fun j hj => (hg j hj).1, hb⟩

theorem Sk.read_small {S : Sk} {s : ByteArray} (h : ∀ n, ∀ c ∈ (S.cont n).seen, c < 256) (off n : Int) : ∀ c ∈ (S.read s off n).1, c < 256 := by
  unfold Sk.read
  split
  · exact fun c hc => (by cases hc)
  · split
    · exact fun c hc => (by cases hc)
    · split
      · exact fun c hc => (by cases hc)
      · exact fun c hc => h _ c (List.mem_of_mem_drop (List.mem_of_mem_take hc))
theorem Sk.read_short {S : Sk} (hF : S.Fine) (s : ByteArray) (off n : Int) : (S.read s off n).1.length ≤ 1099511627776 := by
  unfold Sk.read
  split
  · exact Nat.zero_le _
  · split
    · exact Nat.zero_le _
    · rename_i k _
      split
      · exact Nat.zero_le _
      · have := hF.short k
        simp only [List.length_take, List.length_drop]; omega
theorem Sk.read_len {S : Sk} {s : ByteArray} {n : Nat} (h : (S.read s 0 n).2 = 0) : (S.read s 0 n).1.length = n := by
  unfold Sk.read at h ⊢
  split at h
  · rename_i h1; exact absurd h h1
  · rename_i h1
    rw [if_neg h1]
    split at h
    · cases h
    · split at h
      · cases h
      · rename_i h2
        rw [if_neg h2]
        simp only [List.length_take, List.length_drop]; omega
theorem Dsk.small {W w : World} {a : Nat} {S : Sk} {own : Own} (h : Dsk W a S own w) {s : ByteArray} {n : Nat} (hn : Mp.get S.seen s = some n) : ∀ c ∈ (S.cont n).seen, c < 256 := by
  obtain ⟨D, hd, hok, rfl⟩ := h.out
  obtain ⟨ms, mk, mf, lv, _, h2⟩ := hd.out
  obtain ⟨fb, hfb⟩ := Option.isSome_iff_exists.1 (hok.seenIn s n hn)
  obtain ⟨⟨sv, kv, lv', cs, _, g2, _⟩, _⟩ := h2.each n fb hfb
  exact g2.small
theorem Dsk.read_small {W w : World} {a : Nat} {S : Sk} {own : Own} (h : Dsk W a S own w) (s : ByteArray) (off n : Int) : ∀ c ∈ (S.read s off n).1, c < 256 := by
  unfold Sk.read
  split
  · exact fun c hc => (by cases hc)
  · split
    · exact fun c hc => (by cases hc)
    · rename_i k hk
      split
      · exact fun c hc => (by cases hc)
      · exact fun c hc => h.small hk c (List.mem_of_mem_drop (List.mem_of_mem_take hc))
theorem Dsk.piece_small {W w : World} {a : Nat} {S : Sk} {own : Own} (h : Dsk W a S own w) (hF : S.Fine) (s : ByteArray) (off : Int) : (∀ c ∈ (S.piece s off).1, c < 256) ∧ (S.piece s off).1.length ≤ 1099511627776 := by
  unfold Sk.piece
  split
  · exact ⟨fun c hc => (by cases hc), Nat.zero_le _⟩
  · exact ⟨h.read_small s _ _, Sk.read_short hF s _ _⟩

/-- What Read tells. -/
def readOut (S : Sk) (s : ByteArray) (E : Nat) (off : Int) : Nat × List Nat × Int :=
  if off < 256 ∨ (endAt S s E : Int) ≤ off then (0, [], 2)
  else if (S.piece s off).2 ≠ 0 then (0, [], (S.piece s off).2)
  else (tkKind (S.piece s off).1, tkBody (S.piece s off).1, tkErr (S.piece s off).1)
def readS (S : Sk) (s : ByteArray) (E : Nat) (off : Int) : Sk := if off < 256 ∨ (endAt S s E : Int) ≤ off then S else S.tick

set_option maxRecDepth 100000 in
theorem fileRead_any {W w : World} {g a : Nat} {s : ByteArray} {E : Nat} {S : Sk} {own : Own} (hD : Dsk W a S own w) (h : Fil W g a s E own w) (hF : S.Fine) (hs : s.size ≤ maxLen) (off : Int) (hE : endAt S s E ≤ 1099511627776) :
    Calls Tryz.prog 14 #[.pointer (some ⟨g, 0, none⟩), .int .i64 off] w fun e w' => ∃ p c, e = .returned (.tuple #[.int .u8 (readOut S s E off).1, .slice p (readOut S s E off).2.1.length c, .int .i64 (readOut S s E off).2.2]) ∧
      Bytes w' (.slice p (readOut S s E off).2.1.length c) (readOut S s E off).2.1 ∧ (∀ j, (Value.slice p (readOut S s E off).2.1.length c).ownBlock = some j → w.heap.size ≤ j) ∧ Steps own own w w' ∧ Dsk W a (readS S s E off) own w' ∧ Fil W g a s E own w' := by
  have HN := Lib.hid (isNone_any h)
  have HE := Lib.hid (end_any hD h)
  have hfil : ∀ w', Steps own own w w' → Fil W g a s E own w' := fun w' hst => h.steps hst
  have HFIL := Lib.hid hfil
  have HO : Hid (readOut S s E off = if off < 256 ∨ (endAt S s E : Int) ≤ off then (0, [], 2) else if (S.piece s off).2 ≠ 0 then (0, [], (S.piece s off).2) else (tkKind (S.piece s off).1, tkBody (S.piece s off).1, tkErr (S.piece s off).1)) := rfl
  have HS : Hid (readS S s E off = if off < 256 ∨ (endAt S s E : Int) ≤ off then S else S.tick) := rfl
  by_cases h1 : off < 256
  · have HD := Lib.hid hD
    rw [if_pos (.inl h1)] at HO HS
    clear hD h hF hfil
    go_enter Tryz.func14, Tryz.ntmps14
    go_wp2_with (go_at_call 28; refine HN.out.mono ?_; rintro e w1 ⟨rfl, rfl⟩)
    go_returns
    rw [HO.out, HS.out]
    exact ⟨none, 0, rfl, Bytes.nil _, fun j hj => (by cases hj), ⟨rfl, rfl, rfl, Nat.le_refl _, fun _ _ _ => rfl, fun _ _ => rfl⟩, HD.out, HFIL.out _ ⟨rfl, rfl, rfl, Nat.le_refl _, fun _ _ _ => rfl, fun _ _ => rfl⟩⟩
  by_cases h2 : (endAt S s E : Int) ≤ off
  · have HD := Lib.hid hD
    rw [if_pos (.inr h2)] at HO HS
    clear hD h hF hfil
    go_enter Tryz.func14, Tryz.ntmps14
    go_wp2_with (go_at_call 28; refine HN.out.mono ?_; rintro e w1 ⟨rfl, rfl⟩)
    refine HE.out.mono ?_
    rintro e w1 ⟨rfl, m, rfl⟩
    have HQ : Hid (Steps own own w (w.drewN m)) := Steps.of_below (Sl.below_drewN w m)
    have HDQ := Lib.hid (HD.out.stay (Sl.below_drewN w m))
    go_wp2
    go_returns
    rw [HO.out, HS.out]
    exact ⟨none, 0, rfl, Bytes.nil _, fun j hj => (by cases hj), HQ.out, HDQ.out, HFIL.out _ HQ.out⟩
  · rw [if_neg (by omega)] at HO HS
    have HFR : Hid (∀ m, _) := fun m => from_any (hD.stay (Sl.below_drewN w m)) (h.stay (Sl.below_drewN w m)) hF hs off (by omega)
    have HPS := Lib.hid (hD.piece_small hF s off)
    clear hD h hF hfil
    have hsb : ∃ l x, S.piece s off = (l, x) := ⟨_, _, rfl⟩
    obtain ⟨l, x, hR⟩ := hsb
    rw [hR] at HFR HO HPS
    clear hR
    dsimp only at HFR HO HPS
    have hdec : decide (off < 256) = false := decide_eq_false h1
    have hdec2 : decide ((endAt S s E : Int) ≤ off) = false := decide_eq_false h2
    go_enter Tryz.func14, Tryz.ntmps14
    go_wp2_with (go_at_call 28; refine HN.out.mono ?_; rintro e w1 ⟨rfl, rfl⟩)
    refine HE.out.mono ?_
    rintro e w1 ⟨rfl, m, rfl⟩
    have HQ : Hid (Steps own own w (w.drewN m)) := Steps.of_below (Sl.below_drewN w m)
    go_wp2_with fail
    refine (HFR.out m).mono ?_
    rintro e w2 ⟨p, c, rfl, hown, hst, hd⟩
    have HST := Lib.hid (HQ.out.trans hst)
    have HD2 := Lib.hid hd
    have hby := Bytes.of_owns hown HPS.out.1 (by have := HPS.out.2; unfold maxLen; omega)
    have HTK := Lib.hid (recTakeAll _ l w2 hby (by have := HPS.out.2; omega))
    clear hown hst hd hby HQ HFR HN HE HPS
    by_cases hx : x = 0
    · subst hx
      rw [if_neg (by simp)] at HO
      go_wp2_with fail
      refine HTK.out.mono ?_
      rintro e w3 ⟨p3, c3, rfl, hb3, hfr, hbw⟩
      have HFIN : Hid (Bytes w3 (.slice p3 (tkBody l).length c3) (tkBody l) ∧ (∀ j, (Value.slice p3 (tkBody l).length c3).ownBlock = some j → w.heap.size ≤ j) ∧ Steps own own w w3 ∧ Dsk W a S.tick own w3 ∧ Fil W g a s E own w3) :=
        ⟨hb3, fun j hj => Nat.le_trans HST.out.size (hfr j hj), HST.out.trans (Steps.of_below hbw), HD2.out.stay hbw, HFIL.out _ (HST.out.trans (Steps.of_below hbw))⟩
      clear hb3 hfr hbw
      go_wp2
      go_returns
      rw [HO.out, HS.out]
      exact ⟨p3, c3, rfl, HFIN.out⟩
    · rw [if_pos hx] at HO
      go_wp2
      go_returns
      rw [HO.out, HS.out]
      exact ⟨none, 0, rfl, Bytes.nil _, fun j hj => (by cases hj), HST.out, HD2.out, HFIL.out _ HST.out⟩

set_option maxRecDepth 100000 in
theorem fileSync_any {W w : World} {g a : Nat} {s : ByteArray} {E : Nat} {S : Sk} {own : Own} (hD : Dsk W a S own w) (h : Fil W g a s E own w) (hF : S.Fine) (hs : s.size ≤ maxLen) :
    Calls Tryz.prog 11 #[.pointer (some ⟨g, 0, none⟩)] w fun e w' => e = .returned (.int .i64 (S.sync s).2) ∧ ∃ own', Steps own own' w w' ∧ Dsk W a (S.sync s).1 own' w' ∧ Fil W g a s E own' w' := by
  have HN := Lib.hid (isNone_any h)
  obtain ⟨c0, c1, _⟩ := h.at_
  have hsy : ∀ w0 : World, w0.heap = w.heap → w0.os = w.os → w0.tape = w.tape → w0.output = w.output → Calls Tryz.prog 29 #[.pointer (some ⟨a, 0, none⟩), .string s] w0 fun e w' => e = .returned (.int .i64 (S.sync s).2) ∧
      w'.cell? ⟨g, 0, none⟩ = some (.pointer (some ⟨a, 0, none⟩)) ∧ w'.cell? ⟨g, 1, none⟩ = some (.string s) ∧ ∃ own', Steps own own' w w' ∧ Dsk W a (S.sync s).1 own' w' ∧ Fil W g a s E own' w' := by
    intro w0 e1 e2 e3 e4
    have hb0 := below_same e1 e2 e3 e4
    refine ((hD.stay hb0).sync hF s hs).mono ?_
    rintro e w' ⟨rfl, own', hst, hd⟩
    have hf' := (h.stay hb0).steps hst
    exact ⟨rfl, hf'.at_.1, hf'.at_.2.1, own', (Steps.of_below hb0).trans hst, hd, hf'⟩
  have HSY := Lib.hid hsy
  have hsb : ∃ S2 x, S.sync s = (S2, x) := ⟨_, _, rfl⟩
  obtain ⟨S2, x, hR⟩ := hsb
  rw [hR] at HSY ⊢
  clear hR hD h hF hsy
  dsimp only at HSY ⊢
  go_enter Tryz.func11, Tryz.ntmps11
  go_wp2_with (go_at_call 28; refine HN.out.mono ?_; rintro e w1 ⟨rfl, rfl⟩)
  go_region_held3 (fun w' => w'.cell? ⟨g, 0, none⟩ = some (.pointer (some ⟨a, 0, none⟩)) ∧ w'.cell? ⟨g, 1, none⟩ = some (.string s)) (go_keep)
    (first | (go_at_call 29; refine (HSY.out _ (by rfl) (by rfl) (by rfl) (by rfl)).mono ?_; rintro e w2 ⟨rfl, d0, d1, hfin⟩))
  have HFIN := Lib.hid hfin
  clear hfin
  go_wp2
  go_ret
  exact ⟨rfl, HFIN.out⟩

set_option maxRecDepth 100000 in
theorem open_any {W w : World} {a : Nat} {S : Sk} {own : Own} (hD : Dsk W a S own w) (s : ByteArray) :
    Calls Tryz.prog 13 #[.pointer (some ⟨a, 0, none⟩), .string s] w fun e w' => Dsk W a S own w' ∧ Below w.heap.size w w' ∧
      ((S.size s = none ∧ e = .returned (.tuple #[.pointer none, .int .i64 3])) ∨ (∃ n, S.size s = some n ∧ n < 256 ∧ e = .returned (.tuple #[.pointer none, .int .i64 2])) ∨
       (∃ n, S.size s = some n ∧ 256 ≤ n ∧ ∃ g, w.heap.size ≤ g ∧ e = .returned (.tuple #[.pointer (some ⟨g, 0, none⟩), .int .i64 0]) ∧ Fil W g a s n own w')) := by
  have HS := Lib.hid (hD.size s)
  have HD := Lib.hid hD
  clear hD
  cases hz : S.size s with
  | none =>
    rw [hz] at HS
    unfold sizeV at HS
    clear hz
    go_enter Tryz.func13, Tryz.ntmps13
    go_wp2_with fail
    refine HS.out.mono ?_
    rintro e w1 ⟨rfl, rfl⟩
    go_wp2
    go_ret2
    exact ⟨HD.out, Below.refl _ _, .inl ⟨by first | rfl | trivial, rfl⟩⟩
  | some n =>
    rw [hz] at HS
    unfold sizeV at HS
    clear hz
    by_cases hn : n < 256
    · have hn' : (n : Int) < 256 := by omega
      go_enter Tryz.func13, Tryz.ntmps13
      go_wp2_with fail
      refine HS.out.mono ?_
      rintro e w1 ⟨rfl, rfl⟩
      go_wp2
      go_ret2
      exact ⟨HD.out, Below.refl _ _, .inr (.inl ⟨n, rfl, hn, rfl⟩)⟩
    · have hn' : ¬ (n : Int) < 256 := by omega
      have HB := Lib.hid ((Below.refl w.heap.size w).alloc (Nat.le_refl _) (.cells #[.pointer (some ⟨a, 0, none⟩), .string s, .int .i64 n] 59))
      have HNW := Lib.hid (heap_alloc_new w (.cells #[.pointer (some ⟨a, 0, none⟩), .string s, .int .i64 n] 59))
      go_enter Tryz.func13, Tryz.ntmps13
      go_wp2_with fail
      refine HS.out.mono ?_
      rintro e w1 ⟨rfl, rfl⟩
      go_wp2
      go_ret2
      exact ⟨HD.out.stay HB.out, HB.out, .inr (.inr ⟨n, rfl, by omega, w.heap.size, Nat.le_refl _, rfl, HNW.out, HD.out.new_none (Nat.le_refl _), HD.out.below.size⟩)⟩
end Go.Proofs.YtldkeelgnfegeaaGreat
