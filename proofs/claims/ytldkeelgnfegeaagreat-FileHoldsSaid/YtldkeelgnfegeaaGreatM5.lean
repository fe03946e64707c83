/- Own texts, merged: DskY, DskZ, DskBB, DskBC, DskBD, DskBE, SyA, BodyR, FlA. -/
import Derived.Test.YtldkeelgnfegeaaGreatM4
import Derived.Sort.KeysCollected
import Derived.Sort.EncStr
import Derived.Maps.Own
import Derived.RegionTactic
import Derived.Deep.Slices
import Derived.OpenShut

/- The disk: names that last: settle. -/
namespace Go.Proofs.YtldkeelgnfegeaaGreat
open Go Go.RowKit Go.By

/-- How many entries are still to come. -/
def leftIn (w : World) (r b : Nat) : Nat := match w.heap[r]?, w.heap[b]? with
  | some (.mapIter _ _ seen _), some (.map es _) => (leftOf es seen).size
  | _, _ => 0
theorem leftIn_of {w : World} {b r : Nat} {es : Array MapEntry} {clock : Nat} {seen : Array Nat} (h : Mp.Ranged w b r es clock seen) : leftIn w r b = (leftOf es seen).size := by
  unfold leftIn; rw [h.iter, h.map]

/-- The table of files that have a name, as it is filled. -/
structure Naming (W : World) (bs bn r : Nat) (es : Array MapEntry) (clock : Nat) (K : List (ByteArray × Nat)) (fm : List (Nat × Nat)) (seen : Array Nat) (wr : World) : Prop where
  rng : Mp.Ranged wr bs r es clock seen
  ns : ∃ ns, Mp.Is wr bn natV ptrV ns ∧ (∀ j, (∃ i s, K[i]? = some (s, j) ∧ Mp.came es seen i) → Mp.get ns j = Mp.get fm j) ∧ (∀ j, (¬ ∃ i s, K[i]? = some (s, j) ∧ Mp.came es seen i) → Mp.get ns j = none)
  below : Below bn W wr

theorem Naming.start {W W5 W6 : World} {bs bn r : Nat} {es : Array MapEntry} {clock : Nat} {K : List (ByteArray × Nat)} {fm : List (Nat × Nat)} (hb : W.heap[bs]? = some (.map es clock)) (h5 : W5 = W.alloc (.map #[] 0)) (h6 : W6 = W5.alloc (.mapIter (some bs) clock #[] clock)) (hn : bn = W.heap.size) (hr : r = W5.heap.size) :
    Naming W bs bn r es clock K fm #[] W6 := by
  subst hn hr
  have hbl : bs < W.heap.size := (Array.getElem?_eq_some_iff.1 hb).1
  have z5 : W5.heap.size = W.heap.size + 1 := by rw [h5]; simp
  have k5 : ∀ j, j < W.heap.size → W6.heap[j]? = W.heap[j]? := fun j hj => by
    rw [h6, Below.heap_alloc _ _ _ (by omega), h5, Below.heap_alloc _ _ _ hj]
  have i5 : Mp.Is W6 W.heap.size natV ptrV ([] : List (Nat × Nat)) := by
    have := Mp.Is.made W natV ptrV
    rw [← h5] at this
    exact this.of_heap (by rw [h6, Below.heap_alloc _ _ _ (by omega)])
  refine ⟨⟨(k5 bs hbl).trans hb, by rw [h6]; exact heap_alloc_new W5 _⟩, ⟨[], i5, fun j hj => ?_, fun _ _ => rfl⟩, ⟨by rw [h6, h5]; rfl, by rw [h6, h5]; rfl, by rw [h6, h5]; rfl, by rw [h6, h5]; simp; omega, k5⟩⟩
  obtain ⟨i, s, _, e, _, he⟩ := hj
  simp at he

theorem Naming.leave {W wr : World} {bs bn r : Nat} {es : Array MapEntry} {clock : Nat} {K : List (ByteArray × Nat)} {fm : List (Nat × Nat)} {seen : Array Nat} (h : Naming W bs bn r es clock K fm seen wr) (hall : ∀ i, i < K.length → Mp.came es seen i) :
    ∃ fm', Kept fm K fm' ∧ Mp.Is wr bn natV ptrV fm' := by
  obtain ⟨ns, h1, h2, h3⟩ := h.ns
  refine ⟨ns, fun j => ?_, h1⟩
  by_cases hj : j ∈ K.map (·.2)
  · rw [if_pos hj]
    obtain ⟨p, hp, rfl⟩ := List.mem_map.1 hj
    obtain ⟨i, hi, rfl⟩ := List.getElem_of_mem hp
    exact h2 _ ⟨i, K[i].1, List.getElem?_eq_getElem hi, hall i hi⟩
  · rw [if_neg hj]
    refine h3 j ?_
    rintro ⟨i, s, hs, _⟩
    exact hj (List.mem_map.2 ⟨(s, j), List.mem_of_getElem? hs, rfl⟩)

/-- One file more is laid into the table. -/
theorem Naming.step {W wr W7 W8 : World} {bs bn r i fb : Nat} {p : ByteArray × Nat} {e : MapEntry} {es : Array MapEntry} {clock : Nat} {K : List (ByteArray × Nat)} {fm : List (Nat × Nat)} {seen : Array Nat} (h : Naming W bs bn r es clock K fm seen wr) (hnd : (es.toList.map (·.born)).Nodup)
    {ns : List (Nat × Nat)} (h2 : ∀ j, (∃ i s, K[i]? = some (s, j) ∧ Mp.came es seen i) → Mp.get ns j = Mp.get fm j) (h3 : ∀ j, (¬ ∃ i s, K[i]? = some (s, j) ∧ Mp.came es seen i) → Mp.get ns j = none)
    (hp : K[i]? = some p) (he : es[i]? = some e) (hfb : Mp.get fm p.2 = some fb) (h7 : ∀ k, k ≠ r → W7.heap[k]? = wr.heap[k]?) (hz : W7.heap.size = wr.heap.size) (ho : W7.os = wr.os ∧ W7.tape = wr.tape ∧ W7.output = wr.output) (hR : Mp.Ranged W7 bs r es clock (seen.push e.born)) (hrb : bn < r) (hsb : bs < bn)
    (h8 : Mp.Is W8 bn natV ptrV (Mp.put ns p.2 fb)) (hg : W7.grownBy W8 (some bn)) :
    Naming W bs bn r es clock K fm (seen.push e.born) W8 := by
  have hlt : r < W7.heap.size := (Array.getElem?_eq_some_iff.1 hR.iter).1
  have hput : ∀ j, Mp.get (Mp.put ns p.2 fb) j = if p.2 = j then some fb else Mp.get ns j := fun j => Mp.get_put ns p.2 j fb
  refine ⟨⟨(hg.block bs (by omega) (by simp; omega)).trans hR.map, (hg.block r hlt (by simp; omega)).trans hR.iter⟩, ⟨Mp.put ns p.2 fb, h8, fun j hj => ?_, fun j hj => ?_⟩, ⟨hg.os.trans (ho.1.trans h.below.os), hg.tape.trans (ho.2.1.trans h.below.tape), hg.output.trans (ho.2.2.trans h.below.output), ?_, fun k hk => ?_⟩⟩
  · rw [hput]
    by_cases hpj : p.2 = j
    · rw [if_pos hpj, ← hpj, hfb]
    · rw [if_neg hpj]
      obtain ⟨i', s, hs, hc⟩ := hj
      rcases (Mp.came_push hnd he i').1 hc with hc | rfl
      · exact h2 j ⟨i', s, hs, hc⟩
      · rw [hp] at hs; cases hs; exact absurd rfl hpj
  · rw [hput]
    by_cases hpj : p.2 = j
    · exact absurd ⟨i, p.1, by rw [hp, ← hpj], (Mp.came_push hnd he i).2 (.inr rfl)⟩ hj
    · rw [if_neg hpj]
      refine h3 j ?_
      rintro ⟨i', s, hs, hc⟩
      exact hj ⟨i', s, hs, (Mp.came_push hnd he i').2 (.inl hc)⟩
  · have := h.below.size; have := hg.size; omega
  · exact (hg.block k (by omega) (by simp; omega)).trans ((h7 k (by omega)).trans (h.below.block k hk))

/-- What stands behind settle, where there are tables. -/
structure SettledSome (w w' : World) (a bk : Nat) (D : DiskA) (n : Nat) : Prop where
  out : ∃ fm' bs bn, Kept D.fm (redoNames (D.laid.take n) D.kept) fm' ∧ Mp.Is w' bk strV natV (redoNames (D.laid.take n) D.kept) ∧ Mp.Is w' bs strV natV (redoNames (D.laid.take n) D.kept) ∧ Mp.Is w' bn natV ptrV fm' ∧
    w.heap.size ≤ bs ∧ w.heap.size ≤ bn ∧ bs ≠ bn ∧ w'.heap[a]? = some (.cells (diskCells D (.map (some bs)) (.map (some bk)) (.slice none 0 0) (.map (some bn))) 56 (0, 0))
  os : w'.os = w.os
  tape : w'.tape = w.tape
  output : w'.output = w.output
  size : w.heap.size ≤ w'.heap.size
  block : ∀ k, k < w.heap.size → k ≠ a → k ≠ bk → w'.heap[k]? = w.heap[k]?

set_option maxRecDepth 100000 in
set_option maxHeartbeats 2000000 in
theorem settle_some (own : Own) (a n : Nat) (D : DiskA) (w : World) (h : DiskIs w own a D) {ms lv mf : Value} {bk : Nat} (h1 : w.heap[a]? = some (.cells (diskCells D ms (.map (some bk)) lv mf) 56 (0, 0))) (h2 : Parts w own ms (.map (some bk)) mf lv D)
    (hn : n ≤ D.laid.length) (hlen : D.laid.length < 1000000) (ht : ∀ o ∈ D.laid, o.told = true) (hin : ∀ j ∈ (redoNames (D.laid.take n) D.kept).map (·.2), (Mp.get D.fm j).isSome = true) :
    Calls Tryz.prog 25 #[.pointer (some ⟨a, 0, none⟩), .int .i64 n] w fun e w' => e = .returned (.tuple #[]) ∧ SettledSome w w' a bk D n := by
  have hlt : a < w.heap.size := h.here a _ h.role
  obtain ⟨hrk, hmk⟩ : own bk = some .kept ∧ Mp.Is w bk strV natV D.kept := by
    rcases h2.kept with ⟨hh, _⟩ | ⟨b, hh, hb, hm⟩
    · cases hh
    · cases hh; exact ⟨hb, hm⟩
  have hka : bk ≠ a := by rintro rfl; rw [h.role] at hrk; cases hrk
  obtain ⟨p, c, hlv, hlc, hcell⟩ : ∃ p c, lv = .slice p D.laid.length c ∧ D.laid.length ≤ c ∧ ∀ k o, D.laid[k]? = some o → ∃ g, p = some ⟨g, 0, none⟩ ∧ own g = some .laid ∧ w.cell? ⟨g, k, none⟩ = some (nameV o) := by
    have ho := h2.laid
    rcases ho.2 with ⟨h, h0⟩ | ⟨g, c, cur, h, _, hg, hc, _⟩
    · exact ⟨none, 0, by rw [h, h0], by omega, fun k o hk => by rw [List.eq_nil_of_length_eq_zero h0] at hk; cases hk⟩
    · refine ⟨_, c, h, hc, fun k o hk => ⟨g, rfl, h2.laidR g (by rw [h]; rfl), ?_⟩⟩
      have := ho.cells (g := g) (by rw [h]; rfl) k (nameV o) (by rw [List.getElem?_map, hk]; rfl)
      rw [Addr.add_lit, Nat.zero_add] at this
      exact this
  subst hlv
  have c5 : w.cell? ⟨a, 5, none⟩ = some (.map (some bk)) := cells_of h1 5
  have c6 : w.cell? ⟨a, 6, none⟩ = some (.slice p D.laid.length c) := cells_of h1 6
  have hup := upto_runN p D.laid.length c n (by omega)
  have H := Lib.hid h; have H1 := Lib.hid h1; have H2 := Lib.hid h2; have HC := Lib.hid hcell; have HT := Lib.hid ht; have HIN := Lib.hid hin; have HMK := Lib.hid hmk; have HRK := Lib.hid hrk; have HKA := Lib.hid hka
  clear h h1 h2 hcell ht hin hmk hrk hka
  go_enter Tryz.func25, Tryz.ntmps25
  go_wp2
  clear hup c5 c6
  have h0 : KeptTo w w (.map (some bk)) own D.kept := ⟨.inr ⟨bk, rfl, HRK.out, HMK.out⟩, rfl, rfl, rfl, Nat.le_refl _, fun _ _ _ => rfl⟩
  have H0 := Lib.hid h0; clear h0
  go_loopw [16] (fun i wr => ∃ k : Nat, k ≤ n ∧ i = .int .i64 k ∧ KeptTo w wr (.map (some bk)) own (redoNames (D.laid.take k) D.kept)) (fun i _ => n - (intOf i).toNat)
  case atStart => exact ⟨0, by omega, rfl, H0.out⟩
  case round =>
    obtain ⟨k, hk, rfl, hkt⟩ := hrel
    clear H0
    by_cases hkn : k < n
    · have hko : k < D.laid.length := by omega
      obtain ⟨g, rfl, hgr, hcg⟩ := HC.out k _ (List.getElem?_eq_getElem hko)
      have hgb : g ≠ bk := by rintro rfl; rw [HRK.out] at hgr; cases hgr
      have hgl : g < w.heap.size := H.out.here g _ hgr
      have q1 : wr.cell? ⟨g, k, none⟩ = some (nameV D.laid[k]) := (World.cell?_of_block (hkt.block g hgl (by intro e; cases e; exact hgb rfl))).trans hcg
      have q5 : wr.cell? ⟨a, 5, none⟩ = some (.map (some bk)) := (World.cell?_of_block (hkt.block a hlt (by intro e; cases e; exact HKA.out rfl))).trans (cells_of H1.out 5)
      have hmr : Mp.Is wr bk strV natV (redoNames (D.laid.take k) D.kept) := by
        rcases hkt.map with ⟨hh, _⟩ | ⟨b, hh, _, hm⟩
        · cases hh
        · cases hh; exact hm
      obtain ⟨fid, recv, hv, henter, hcall⟩ := redoName_any D.laid[k] (HT.out _ (List.getElem_mem hko)) bk _ wr hmr
      rw [hv] at q1
      have hsn : redoNames (D.laid.take (k + 1)) D.kept = redoName D.laid[k] (redoNames (D.laid.take k) D.kept) := by
        rw [List.take_succ_eq_append_getElem hko, redoNames_snoc]
      have HSN := Lib.hid hsn; have HCALL := Lib.hid hcall; have HKT := Lib.hid hkt
      have hkn' : (k : Int) < n := by omega
      have hkl : (k : Int) < D.laid.length := by omega
      clear hsn hcall hkt hcg hmr hv hgb hgl hgr
      go_wp2_with fail
      refine HCALL.out.mono ?_
      rintro e w2 ⟨rfl, hm2, hg2⟩
      have hkt2 := HKT.out.step HRK.out hm2 hg2
      have HKT2 := Lib.hid hkt2
      clear hm2 hg2 hkt2 henter
      go_wp2
      go_roundw
      case rel => exact ⟨k + 1, by omega, by go_num, by rw [HSN.out]; exact HKT2.out⟩
      case measure => simp [intOf]; omega
    · obtain rfl : k = n := by omega
      have a1 : wr.heap[a]? = some (.cells (diskCells D ms (.map (some bk)) (.slice p D.laid.length c) mf) 56 (0, 0)) := (hkt.block a hlt (by intro e; cases e; exact HKA.out rfl)).trans H1.out
      have s6 := set_heap a1 6 (.slice none 0 0)
      have q6 : wr.cell? ⟨a, 6, none⟩ = some (.slice p D.laid.length c) := cells_of a1 6
      have q5 : wr.cell? ⟨a, 5, none⟩ = some (.map (some bk)) := cells_of a1 5
      have q4 : wr.cell? ⟨a, 4, none⟩ = some ms := cells_of a1 4
      have f6 := free_of a1 6
      have hmr : Mp.Is wr bk strV natV (redoNames (D.laid.take k) D.kept) := by
        rcases hkt.map with ⟨hh, _⟩ | ⟨b, hh, _, hm⟩
        · cases hh
        · cases hh; exact hm
      obtain ⟨⟨es, clock, hes, hlies, hborn, hnd⟩, hkn2⟩ := hmr
      have hm2 : (wr.setCell ⟨a, 6, none⟩ (.slice none 0 0)).heap[bk]? = some (.map es clock) := (s6.2 bk HKA.out).trans hes
      have HKT := Lib.hid hkt; have HM2 := Lib.hid hm2; have S6 := Lib.hid s6; have HES := Lib.hid hes; have HLI := Lib.hid hlies; have HBO := Lib.hid hborn; have HND := Lib.hid hnd; have HKN := Lib.hid hkn2
      clear hkt a1 s6 hes hlies hborn hnd hkn2 hm2
      go_wp2_with fail
      refine (cloneMap_any bk es clock _ HM2.out).mono ?_
      rintro e W3 ⟨rfl, hW3⟩
      -- what stands behind the clone
      obtain ⟨bs, hbs⟩ : ∃ bs, bs = (wr.setCell ⟨a, 6, none⟩ (.slice none 0 0)).heap.size := ⟨_, rfl⟩
      rw [← hbs]
      have hbw : w.heap.size ≤ bs := by rw [hbs]; have := HKT.out.size; simpa using this
      have z3 : W3.heap.size = bs + 1 := by rw [hW3, hbs]; simp
      have m3 : W3.heap[bs]? = some (.map es clock) := by rw [hW3, hbs]; exact heap_alloc_new _ _
      have l3 : ∀ j, j < bs → W3.heap[j]? = (wr.setCell ⟨a, 6, none⟩ (.slice none 0 0)).heap[j]? := fun j hj => by rw [hW3]; exact Below.heap_alloc _ _ _ (by omega)
      have hbkl : bk < bs := by
        have := (Array.getElem?_eq_some_iff.1 HM2.out).1
        omega
      have a3 : W3.heap[a]? = some (.cells (diskCells D ms (.map (some bk)) (.slice none 0 0) mf) 56 (0, 0)) := (l3 a (by omega)).trans S6.out.1
      have k3 : W3.heap[bk]? = some (.map es clock) := (l3 bk hbkl).trans HM2.out
      have b3 : ∀ j, j < w.heap.size → j ≠ a → j ≠ bk → W3.heap[j]? = w.heap[j]? := fun j hj h1 h2 => (l3 j (by omega)).trans ((S6.out.2 j h1).trans (HKT.out.block j hj (by intro e; cases e; exact h2 rfl)))
      have o3 : W3.os = w.os ∧ W3.tape = w.tape ∧ W3.output = w.output := by rw [hW3]; exact ⟨HKT.out.os, HKT.out.tape, HKT.out.output⟩
      -- the names as they are seen
      have s4 := set_heap a3 4 (.map (some bs))
      have t4 : W3.cell? ⟨a, 4, none⟩ = some ms := cells_of a3 4
      have g4 := free_of a3 4
      obtain ⟨W4, hW4⟩ : ∃ W4, W4 = W3.setCell ⟨a, 4, none⟩ (.map (some bs)) := ⟨_, rfl⟩
      rw [← hW4] at s4
      have z4 : W4.heap.size = bs + 1 := by rw [hW4]; simpa using z3
      have m4 : W4.heap[bs]? = some (.map es clock) := (s4.2 bs (by omega)).trans m3
      have k4 : W4.heap[bk]? = some (.map es clock) := (s4.2 bk HKA.out).trans k3
      have b4 : ∀ j, j < w.heap.size → j ≠ a → j ≠ bk → W4.heap[j]? = w.heap[j]? := fun j hj h1 h2 => (s4.2 j h1).trans (b3 j hj h1 h2)
      have o4 : W4.os = w.os ∧ W4.tape = w.tape ∧ W4.output = w.output := by rw [hW4]; exact o3
      obtain ⟨W5, hW5⟩ : ∃ W5, W5 = W4.alloc (.map #[] 0) := ⟨_, rfl⟩
      obtain ⟨W6, hW6⟩ : ∃ W6, W6 = W5.alloc (.mapIter (some bs) clock #[] clock) := ⟨_, rfl⟩
      obtain ⟨bn, hbn⟩ : ∃ bn, bn = W4.heap.size := ⟨_, rfl⟩
      obtain ⟨r, hr⟩ : ∃ r, r = W5.heap.size := ⟨_, rfl⟩
      have z5 : W5.heap.size = bs + 2 := by rw [hW5]; simp; omega
      have m5 : W5.heap[bs]? = some (.map es clock) := by rw [hW5, Below.heap_alloc _ _ _ (by omega)]; exact m4
      have a5 : W5.heap[a]? = some (.cells (diskCells D (.map (some bs)) (.map (some bk)) (.slice none 0 0) mf) 56 (0, 0)) := by rw [hW5, Below.heap_alloc _ _ _ (by omega)]; exact s4.1
      have hNs := Naming.start (K := redoNames (D.laid.take k) D.kept) (fm := D.fm) m4 hW5 hW6 hbn hr
      have hlen' := Mp.Is.len (P := Tryz.prog) (mk := strV) (mv := natV) (m := redoNames (D.laid.take k) D.kept) (w := W3.setCell ⟨a, 4, none⟩ (.map (some bs))) (b := bs) (t := 51) ⟨⟨es, clock, by rw [← hW4]; exact m4, HLI.out, HBO.out, HND.out⟩, HKN.out⟩ namesT
      have hmk5 : (Instr.makeMap 54 (some (.int .i64 ((redoNames (D.laid.take k) D.kept).length : Int)))).run Tryz.prog (W3.setCell ⟨a, 4, none⟩ (.map (some bs))) = .ok (.map (some bn)) W5 := by
        rw [← hW4, run_makeMap_int filesT, hW5, hbn]
      have t5 : W5.cell? ⟨a, 4, none⟩ = some (.map (some bs)) := cells_of a5 4
      have hrg : (Instr.range 51 (.map (some bs))).run Tryz.prog W5 = .ok (.pointer (some ⟨r, 0, none⟩)) W6 := by
        rw [run_range_map W5 51 9 3 bs es clock namesT m5, hr, hW6]
      have hrn : r = bn + 1 := by omega
      have hsn : bs < bn := by omega
      have HNs := Lib.hid hNs; have S4 := Lib.hid s4; have K4 := Lib.hid k4; have B4 := Lib.hid b4; have O4 := Lib.hid o4; have HW4 := Lib.hid hW4; have HRN := Lib.hid hrn; have HSN := Lib.hid hsn; have HBN := Lib.hid hbn; have HBW := Lib.hid hbw; have HBKL := Lib.hid hbkl; have Z4 := Lib.hid z4
      clear hbs z3 m3 l3 a3 k3 b3 o3 s4 z4 m4 k4 b4 o4 hW5 hW6 z5 m5 a5 hNs hrn hsn hbn hr hW3 hW4 q4 q5 q6 f6 hbw hbkl
      clear HM2 S6 HES HC HT
      go_wp2
      clear hlen' hmk5 t5 hrg t4 g4
      go_loopw [8] (fun _ wr => ∃ seen, Naming W4 bs bn r es clock (redoNames (D.laid.take k) D.kept) D.fm seen wr) (fun _ wr => leftIn wr r bs)
      case atStart => exact ⟨_, HNs.out⟩
      case round =>
        clear HNs
        obtain ⟨seen, hN⟩ := hrel
        have hbn := HBN.out
        have hrn := HRN.out
        have hsn := HSN.out
        have hbw := HBW.out
        have hz := hN.below.size
        have ar : wr.heap[a]? = some (.cells (diskCells D (.map (some bs)) (.map (some bk)) (.slice none 0 0) mf) 56 (0, 0)) := (hN.below.block a (by omega)).trans S4.out.1
        have hR0 := hN.rng.next (P := Tryz.prog) HLI.out HBO.out HND.out 0
        rcases hR0 with ⟨hall, hnx⟩ | ⟨i, pr, e, w1, hp, he, hel, hw1, hnx, hR, hen⟩
        · obtain ⟨fm', hk', hi'⟩ := hN.leave (fun i hi => hall i hi)
          have s8 := set_heap ar 8 (.map (some bn))
          have q8 : wr.cell? ⟨a, 8, none⟩ = some mf := cells_of ar 8
          have f8 := free_of ar 8
          have fin : SettledSome w (wr.setCell ⟨a, 8, none⟩ (.map (some bn))) a bk D k := by
            have hbl := HBKL.out
            refine ⟨⟨fm', bs, bn, hk', ?_, ?_, hi'.of_heap (s8.2 bn (by omega)), by omega, by omega, by omega, s8.1⟩, ?_, ?_, ?_, ?_, fun j hj h1 h2 => ?_⟩
            · exact ⟨⟨es, clock, (s8.2 bk HKA.out).trans ((hN.below.block bk (by omega)).trans K4.out), HLI.out, HBO.out, HND.out⟩, HKN.out⟩
            · exact ⟨⟨es, clock, (s8.2 bs (by omega)).trans hN.rng.map, HLI.out, HBO.out, HND.out⟩, HKN.out⟩
            · exact hN.below.os.trans O4.out.1
            · exact hN.below.tape.trans O4.out.2.1
            · exact hN.below.output.trans O4.out.2.2
            · simp; omega
            · exact (s8.2 j h1).trans ((hN.below.block j (by omega)).trans (B4.out j hj h1 h2))
          have FIN := Lib.hid fin
          clear hbn hrn hsn hbw hz ar hall hk' hi' s8 fin hN
          go_wp2
          go_returns
          exact ⟨rfl, FIN.out⟩
        · obtain ⟨W7, hW7⟩ : ∃ W7, W7 = ChangeMaps.setBlock w1 r (.mapIter (some bs) clock (seen.push e.born) clock) := ⟨_, rfl⟩
          rw [← hW7] at hnx hR hen
          have hR7 := hR (by omega)
          have hen7 := hen (by omega)
          have h7 : ∀ j, j ≠ r → W7.heap[j]? = wr.heap[j]? := fun j hj => by
            rw [hW7]
            show (w1.heap.setIfInBounds r _)[j]? = _
            rw [Array.getElem?_setIfInBounds_ne (fun e => hj e.symm)]
            rcases hw1 with rfl | rfl <;> rfl
          have z7 : W7.heap.size = wr.heap.size := by
            rw [hW7]
            show (w1.heap.setIfInBounds r _).size = _
            rcases hw1 with rfl | rfl <;> simp
          have o7 : W7.os = wr.os ∧ W7.tape = wr.tape ∧ W7.output = wr.output := by
            rw [hW7]
            rcases hw1 with rfl | rfl <;> exact ⟨rfl, rfl, rfl⟩
          have hfbs : (Mp.get D.fm pr.2).isSome = true := HIN.out _ (List.mem_map.2 ⟨pr, List.mem_of_getElem? hp, rfl⟩)
          obtain ⟨fb, hfb⟩ := Option.isSome_iff_exists.1 hfbs
          obtain ⟨bf, hmf, hrf, hmf2⟩ : ∃ bf, mf = .map (some bf) ∧ own bf = some .files ∧ Mp.Is w bf natV ptrV D.fm := by
            rcases H2.out.files with ⟨hh, _⟩ | ⟨b, hh, hb, hm⟩
            · exact absurd hh (H2.out.full (by simp)).2
            · exact ⟨b, hh, hb, hm⟩
          subst hmf
          have hfa : bf ≠ a := by rintro rfl; rw [H.out.role] at hrf; cases hrf
          have hfk : bf ≠ bk := by rintro rfl; rw [HRK.out] at hrf; cases hrf
          have hfl : bf < w.heap.size := H.out.here bf _ hrf
          have i7 : Mp.Is W7 bf natV ptrV D.fm := hmf2.of_heap ((h7 bf (by omega)).trans ((hN.below.block bf (by omega)).trans (B4.out bf hfl hfa hfk)))
          have a7 : W7.heap[a]? = some (.cells (diskCells D (.map (some bs)) (.map (some bk)) (.slice none 0 0) (.map (some bf))) 56 (0, 0)) := (h7 a (by omega)).trans ar
          have q8 : W7.cell? ⟨a, 8, none⟩ = some (.map (some bf)) := cells_of a7 8
          have hlk := (i7.look natK filesT (zeroFile W7) pr.2).2
          rw [hfb] at hlk
          obtain ⟨ns, hns, hn2, hn3⟩ := hN.ns
          have hns7 : Mp.Is W7 bn natV ptrV ns := hns.of_heap (h7 bn (by omega))
          obtain ⟨W8, hup8, hi8, hg8, _⟩ := update_world hns7 natK filesT pr.2 fb
          have hN8 : Naming W4 bs bn r es clock (redoNames (D.laid.take k) D.kept) D.fm (seen.push e.born) W8 := hN.step HND.out hn2 hn3 hp he hfb h7 z7 o7 hR7 (by omega) (by omega) hi8 hg8
          have hms : leftIn W8 r bs < leftIn wr r bs := by rw [leftIn_of hN8.rng, leftIn_of hN.rng]; exact Mp.left_less hel
          have HN8 := Lib.hid hN8; have HMS := Lib.hid hms
          unfold natV ptrV at hlk hup8
          unfold natV strV at hnx hen7
          simp only [Option.map_some, Option.getD_some] at hlk
          clear hbn hrn hsn hbw hz ar hp he hel hw1 hR hen hW7 hR7 h7 z7 o7 hfbs hfb hrf hmf2 hfa hfk hfl i7 a7 hns hns7 hi8 hg8 hN8 hms hN hn2 hn3
          go_wp2
          go_roundw
          case rel => exact ⟨_, HN8.out⟩
          case measure => exact HMS.out
end Go.Proofs.YtldkeelgnfegeaaGreat

/- The disk: names that last: settle, as lists; SyncDir. -/
namespace Go.Proofs.YtldkeelgnfegeaaGreat
open Go Go.RowKit Go.By

theorem mem_put {α β : Type} [DecidableEq α] {m : List (α × β)} {a : α} {v : β} {p : α × β} (h : p ∈ Mp.put m a v) : p = (a, v) ∨ p ∈ m := by
  induction m with
  | nil => simp [Mp.put] at h; exact .inl h
  | cons q m ih =>
    simp only [Mp.put] at h
    split at h
    · rcases List.mem_cons.1 h with h | h
      · exact .inl h
      · exact .inr (List.mem_cons_of_mem _ h)
    · rcases List.mem_cons.1 h with h | h
      · exact .inr (by rw [h]; exact List.mem_cons_self)
      · rcases ih h with h | h
        · exact .inl h
        · exact .inr (List.mem_cons_of_mem _ h)
theorem mem_del {α β : Type} [DecidableEq α] {m : List (α × β)} {a : α} {p : α × β} (h : p ∈ Mp.del m a) : p ∈ m := by
  induction m with
  | nil => simp [Mp.del] at h
  | cons q m ih =>
    simp only [Mp.del] at h
    split at h
    · exact List.mem_cons_of_mem _ h
    · rcases List.mem_cons.1 h with h | h
      · rw [h]; exact List.mem_cons_self
      · exact List.mem_cons_of_mem _ (ih h)
theorem get_of_mem {α β : Type} [DecidableEq α] {m : List (α × β)} (hn : (m.map (·.1)).Nodup) {p : α × β} (h : p ∈ m) : Mp.get m p.1 = some p.2 := by
  induction m with
  | nil => cases h
  | cons q m ih =>
    simp only [List.map_cons, List.nodup_cons] at hn
    simp only [Mp.get]
    rcases List.mem_cons.1 h with h | h
    · subst h; rw [if_pos rfl]
    · rw [if_neg (by intro e; exact hn.1 (by rw [e]; exact List.mem_map_of_mem h))]
      exact ih hn.2 h
theorem mem_of_get {α β : Type} [DecidableEq α] {m : List (α × β)} {a : α} {v : β} (h : Mp.get m a = some v) : (a, v) ∈ m := by
  induction m with
  | nil => cases h
  | cons q m ih =>
    simp only [Mp.get] at h
    split at h
    · rename_i e
      cases h; rw [← e]; exact List.mem_cons_self
    · exact List.mem_cons_of_mem _ (ih h)

theorem mem_redo {l : List NameOp} (ht : ∀ o ∈ l, o.told = true) : ∀ {m : List (ByteArray × Nat)} {p : ByteArray × Nat}, p ∈ redoNames l m → p ∈ m ∨ NameOp.create p.1 p.2 ∈ l := by
  induction l with
  | nil => intro m p h; exact .inl h
  | cons o l ih =>
    intro m p h
    have hh : p ∈ redoNames l (redoName o m) := h
    rcases ih (fun o ho => ht o (List.mem_cons_of_mem _ ho)) hh with h | h
    · cases o with
      | create s n =>
        rcases mem_put h with h | h
        · subst h; exact .inr List.mem_cons_self
        · exact .inl h
      | remove s => exact .inl (mem_del h)
      | rename s t => have := ht _ List.mem_cons_self; cases this
    · exact .inr (List.mem_cons_of_mem _ h)
theorem nodup_redo {l : List NameOp} : ∀ {m : List (ByteArray × Nat)}, (m.map (·.1)).Nodup → ((redoNames l m).map (·.1)).Nodup := by
  induction l with
  | nil => intro m h; exact h
  | cons o l ih =>
    intro m h
    refine ih (m := redoName o m) ?_
    cases o with
    | create s n => exact Mp.nodup_put h s n
    | remove s => exact Mp.nodup_del h s
    | rename s t => exact Mp.nodup_put (Mp.nodup_del h s) t _

theorem MapV.nodup {α β : Type} [DecidableEq α] {w : World} {own : Own} {r : Role} {v : Value} {mk : α → Value} {mv : β → Value} {m : List (α × β)} (h : MapV w own r v mk mv m) : (m.map (·.1)).Nodup := by
  rcases h with ⟨_, rfl⟩ | ⟨_, _, _, hm⟩
  · simp
  · exact hm.nodup

/-- The numbers that names lead to have files. -/
theorem redo_in {D : DiskA} (hok : D.Ok) (hn : (D.kept.map (·.1)).Nodup) (ht : ∀ o ∈ D.laid, o.told = true) (n : Nat) : ∀ j ∈ (redoNames (D.laid.take n) D.kept).map (·.2), (Mp.get D.fm j).isSome = true := by
  intro j hj
  obtain ⟨p, hp, rfl⟩ := List.mem_map.1 hj
  rcases mem_redo (fun o ho => ht o (List.mem_of_mem_take ho)) hp with h | h
  · exact hok.keptIn p.1 p.2 (get_of_mem hn h)
  · exact hok.laidIn p.1 p.2 (List.mem_of_mem_take h)

theorem DiskA.settled_ok {D : DiskA} (hok : D.Ok) {n : Nat} {fm' : List (Nat × Nat)} (hk : Kept D.fm (redoNames (D.laid.take n) D.kept) fm') (hin : ∀ j ∈ (redoNames (D.laid.take n) D.kept).map (·.2), (Mp.get D.fm j).isSome = true) : (D.settled n fm').Ok where
  seenIn := fun s j h => by
    have hm : j ∈ (redoNames (D.laid.take n) D.kept).map (·.2) := List.mem_map.2 ⟨(s, j), mem_of_get h, rfl⟩
    show (Mp.get fm' j).isSome = true
    rw [hk j, if_pos hm]; exact hin j hm
  keptIn := fun s j h => by
    have hm : j ∈ (redoNames (D.laid.take n) D.kept).map (·.2) := List.mem_map.2 ⟨(s, j), mem_of_get h, rfl⟩
    show (Mp.get fm' j).isSome = true
    rw [hk j, if_pos hm]; exact hin j hm
  laidIn := fun s j h => by cases h
  made := fun j h => by
    have h' : (Mp.get fm' j).isSome = true := h
    rw [hk j] at h'
    split at h'
    · exact hok.made j h'
    · cases h'

def Settled (own : Own) (a n : Nat) (D : DiskA) (w w' : World) : Prop :=
  ∃ own' fm', Steps own own' w w' ∧ DiskIs w' own' a (D.settled n fm') ∧ Kept D.fm (redoNames (D.laid.take n) D.kept) fm'

theorem settle_any (own : Own) (a n : Nat) (D : DiskA) (w : World) (h : DiskIs w own a D) (hok : D.Ok) (hn : n ≤ D.laid.length) (hlen : D.laid.length < 1000000) (ht : ∀ o ∈ D.laid, o.told = true) :
    Calls Tryz.prog 25 #[.pointer (some ⟨a, 0, none⟩), .int .i64 n] w fun e w' => e = .returned (.tuple #[]) ∧ Settled own a n D w w' := by
  obtain ⟨ms, mk, mf, lv, h1, h2⟩ := h.out
  have hlt : a < w.heap.size := h.here a _ h.role
  rcases h2.kept with ⟨rfl, hk0⟩ | ⟨bk, rfl, hrk, hmk⟩
  · have hb := h2.bare rfl
    have hn0 : n = 0 := by rw [hb.2.2] at hn; simpa using hn
    subst hn0
    refine (settle_nil own a D w h h1 h2).mono ?_
    rintro e w' ⟨rfl, z, kn, ka, q1, q2, q3, kb⟩
    have he : redoNames (D.laid.take 0) D.kept = [] := by rw [List.take_zero, hk0]; rfl
    refine ⟨rfl, own.add w.heap.size .files, [], ⟨q1, q2, q3, by omega, fun k hk hne => kb k hk ?_, fun k hk => Own.add_lt hk⟩, ⟨⟨.map none, .map none, .map (some w.heap.size), .slice none 0 0, ka, ?_⟩, ?_, fun k hk => ?_, fun k r hk => ?_⟩, ?_⟩
    · rintro rfl; rw [h.role] at hne; simp at hne
    · refine ⟨.inl ⟨rfl, he⟩, .inl ⟨rfl, he⟩, World.ownsRow_nil _ _ _ _, fun k hk => (by cases hk), .inr ⟨w.heap.size, rfl, Own.add_self _ _ _, ⟨⟨#[], 0, kn, rfl, by simp, by simp⟩, by simp [DiskA.settled]⟩⟩, fun j fb hj => (by cases hj), fun _ => ⟨he, rfl, rfl⟩, fun hne => absurd rfl hne, fun _ => rfl⟩
    · exact Own.add_old h.here (Nat.le_refl _) h.role
    · rcases Own.add_some hk with ⟨_, hh⟩ | hh
      · cases hh
      · exact h.only k hh
    · rcases Own.add_some hk with ⟨hh, _⟩ | hh
      · omega
      · have := h.here k r hh; omega
    · intro j; rw [he]; rfl
  · have hin := redo_in hok h2.kept.nodup ht n
    refine (settle_some own a n D w h h1 h2 hn hlen ht hin).mono ?_
    rintro e w' ⟨rfl, ⟨fm', bs, bn, hk, i1, i2, i3, hbs, hbn, hne, ha⟩, q1, q2, q3, z, kb⟩
    have hka : bk ≠ a := by rintro rfl; rw [h.role] at hrk; cases hrk
    let o1 := own.add bs .seen
    let o2 := o1.add bn .files
    have r0 : ∀ k r, own k = some r → o2 k = some r := fun k r hkr => by
      have := h.here k r hkr
      show (o1.add bn .files) k = _
      unfold Own.add
      rw [if_neg (by omega)]
      show (own.add bs .seen) k = _
      unfold Own.add
      rw [if_neg (by omega)]; exact hkr
    have rs : o2 bs = some .seen := by
      show (o1.add bn .files) bs = _
      unfold Own.add
      rw [if_neg hne]
      exact Own.add_self _ _ _
    have rn : o2 bn = some .files := Own.add_self _ _ _
    have stay : Stay own o2 (fun r => r ≠ .disk ∧ r ≠ .kept) w w' := ⟨r0, fun k r hkr hr => kb k (h.here k r hkr) (by rintro rfl; rw [h.role] at hkr; cases hkr; exact hr.1 rfl) (by rintro rfl; rw [hrk] at hkr; cases hkr; exact hr.2 rfl)⟩
    refine ⟨rfl, o2, fm', ⟨q1, q2, q3, z, fun k hkl hor => kb k hkl ?_ ?_, fun k hkl => ?_⟩, ⟨⟨_, _, _, _, ha, ?_⟩, r0 a _ h.role, fun k hkr => ?_, fun k r hkr => ?_⟩, hk⟩
    · rintro rfl; rw [h.role] at hor; simp at hor
    · rintro rfl; rw [hrk] at hor; simp at hor
    · show (o1.add bn .files) k = _
      unfold Own.add
      rw [if_neg (by omega)]
      show (own.add bs .seen) k = _
      unfold Own.add
      rw [if_neg (by omega)]
    · refine ⟨.inr ⟨bs, rfl, rs, i2⟩, .inr ⟨bk, rfl, r0 bk _ hrk, i1⟩, World.ownsRow_nil _ _ _ _, fun k hk => (by cases hk), .inr ⟨bn, rfl, rn, i3⟩, fun j fb hj => ?_, fun hh => (by cases hh), fun _ => ⟨by simp, by simp⟩, fun _ => rfl⟩
      have hj' : Mp.get fm' j = some fb := hj
      rw [hk j] at hj'
      split at hj'
      · exact (h2.each j fb hj').stay stay (by simp) (by simp) (by simp) (by simp) (by simp)
      · cases hj'
    · rcases Own.add_some hkr with ⟨_, hh⟩ | hh
      · cases hh
      rcases Own.add_some hh with ⟨_, hh⟩ | hh
      · cases hh
      exact h.only k hh
    · rcases Own.add_some hkr with ⟨rfl, _⟩ | hh
      · exact i3.lt
      rcases Own.add_some hh with ⟨rfl, _⟩ | hh
      · exact i2.lt
      have := h.here k r hh; omega

/-- What SyncDir leaves. -/
def SyncedDir (own : Own) (a : Nat) (D : DiskA) (w : World) (e : Ending) (w' : World) : Prop :=
  (∃ own', Steps own own' w w' ∧ (D.begin true).2 ≠ 0 ∧ e = .returned (.int .i64 (D.begin true).2) ∧ DiskIs w' own' a (D.begin true).1) ∨
  ((D.begin true).2 = 0 ∧ e = .returned (.int .i64 0) ∧ Settled own a D.laid.length (D.begin true).1 w w')

set_option maxRecDepth 100000 in
theorem syncDir_any (own : Own) (a : Nat) (D : DiskA) (w : World) (h : DiskIs w own a D) (hok : D.Ok) (ho : D.ops < 4611686018427387904) (hl : D.left < 4611686018427387904) (hlen : D.laid.length < 1000000) (ht : ∀ o ∈ D.laid, o.told = true) :
    Calls Tryz.prog 9 #[.pointer (some ⟨a, 0, none⟩)] w (SyncedDir own a D w) := by
  have hc := begin_any own a D true w h ho hl
  have hbl : (D.begin true).1.laid = D.laid := (DiskA.begin_same D true).2.2.1
  by_cases he : (D.begin true).2 = 0
  · have HOK := Lib.hid (DiskA.begin_ok hok true)
    have HC := Lib.hid hc; have HBL := Lib.hid hbl; have HE := Lib.hid he; have HLEN := Lib.hid hlen; have HT := Lib.hid ht
    clear hc hbl he h hok ho hl hlen ht
    go_enter Tryz.func9, Tryz.ntmps9
    go_wp2_with fail
    refine HC.out.mono ?_
    rintro e w1 ⟨rfl, hd1, hs1⟩
    rw [HE.out]
    obtain ⟨ms, mk, mf, lv, k1, k2⟩ := hd1.out
    obtain ⟨p, c, rfl⟩ : ∃ p c, lv = .slice p (D.begin true).1.laid.length c := by
      rcases k2.laid.2 with ⟨h, h0⟩ | ⟨g, c, _, h, _⟩
      · exact ⟨none, 0, by rw [h, h0]⟩
      · exact ⟨_, c, h⟩
    have c6 : w1.cell? ⟨a, 6, none⟩ = some (.slice p (D.begin true).1.laid.length c) := cells_of k1 6
    have hst := settle_any own a (D.begin true).1.laid.length (D.begin true).1 w1 hd1 HOK.out (Nat.le_refl _) (by rw [HBL.out]; exact HLEN.out) (by rw [HBL.out]; exact HT.out)
    have HST := Lib.hid hst; have HS1 := Lib.hid hs1; have HD1 := Lib.hid hd1
    clear hst hs1 hd1 k1 k2
    go_wp2_with fail
    refine HST.out.mono ?_
    rintro e w2 ⟨rfl, hset⟩
    have hfin : SyncedDir own a D w (.returned (.int .i64 0)) w2 := by
      obtain ⟨own', fm', q1, q2, q3⟩ := hset
      refine .inr ⟨HE.out, rfl, own', fm', HS1.out.trans q1, ?_, ?_⟩
      · rw [HBL.out] at q2; exact q2
      · rw [HBL.out] at q3; rw [HBL.out]; exact q3
    have HFIN := Lib.hid hfin
    clear hset hfin c6
    go_wp2
    go_ret
    exact HFIN.out
  · have hc0 : ∃ x : Int, (D.begin true).2 = x ∧ x ≠ 0 := ⟨_, rfl, he⟩
    obtain ⟨x, hx, hx0⟩ := hc0
    have HC := Lib.hid hc; have HX := Lib.hid hx; have HE := Lib.hid he
    clear hc hbl he h hok ho hl hlen ht hx
    go_enter Tryz.func9, Tryz.ntmps9
    go_wp2_with fail
    refine HC.out.mono ?_
    rintro e w1 ⟨rfl, hd1, hs1⟩
    rw [HX.out]
    have hxb : (x == 0) = false := beq_eq_false_iff_ne.2 hx0
    clear hx0
    have HD1 := Lib.hid hd1; have HS1 := Lib.hid hs1
    clear hd1 hs1
    go_wp2
    go_ret
    exact .inl ⟨own, HS1.out, HE.out, by rw [HX.out]; rfl, HD1.out⟩
end Go.Proofs.YtldkeelgnfegeaaGreat

/- The disk: its names, rising. -/
namespace Go.Proofs.YtldkeelgnfegeaaGreat
open Go Go.RowKit Go.By Go.Maps Go.Sort Go.MapKept Go.WideElems

/-- A map of names, as the library's contracts speak of it. -/
theorem own_names {w : World} {b : Nat} {m : List (ByteArray × Nat)} (h : Mp.Is w b strV natV m) (hs : ∀ p ∈ m, p.1.size ≤ maxLen) (hm : m.length ≤ 1000000) :
    ∃ (D0 : DataW Unit) (nn : Nat), w.ownsMap Tryz.prog 9 (fun _ => some (DataW.nil, [])) b nn D0 ∧ (strKeys D0).Perm (m.map fun p => p.1.data.toList) ∧ Maps.size D0 = m.length := by
  have hst : Tryz.prog.underlying 9 = some .string := by kernel_rfl
  obtain ⟨⟨l, clock, hW, hl, hb1, hb2⟩, hn⟩ := h
  let R : Value → Option (DataW Unit × List MemPlace) := fun _ => some (DataW.nil, [])
  have hlen : l.toList.length = m.length := hl.length
  have hrd : ∀ (j : Nat) (x : MapEntry), l.toList[j]? = some x → ∃ p, m[j]? = some p ∧ rd Tryz.prog 9 R x = some (.string p.1.data.toList, .nil) := by
    intro j x hx
    obtain ⟨p, hp, hk, _⟩ := hl.at hx
    have hsz := hs p (List.mem_of_getElem? hp)
    refine ⟨p, hp, ?_⟩
    have hk' : x.key = .string p.1 := hk
    show (keyOf Tryz.prog 9 x.key).bind (fun key => (R x.val).map fun y => (key, y.1)) = _
    simp [keyOf, mapKey, hst, hk', R, hsz]
  have hrg : (l.toList.map (rg Tryz.prog 9 R)) = m.map fun p => (Lit.string p.1.data.toList, DataW.nil) := by
    apply List.ext_getElem?
    intro j
    simp only [List.getElem?_map]
    cases hx : l.toList[j]? with
    | none =>
      have : m[j]? = none := by
        rw [List.getElem?_eq_none_iff] at hx ⊢; omega
      simp [this]
    | some x =>
      obtain ⟨p, hp, hr⟩ := hrd j x hx
      simp [hp, rg, hr]
  refine ⟨.map ((l.toList.map (rg Tryz.prog 9 R)).foldr DataW.insert []), l.size, ⟨l, clock, hW, ⟨?_, ?_, ?_⟩, Nat.le_refl _, rfl⟩, ?_, ?_⟩
  · have : l.size ≤ 1000000 := by rw [← Array.length_toList, hlen]; exact hm
    unfold maxLen; omega
  · rw [stamped_iff]
    refine ⟨hb1, hb2, ?_⟩
    have hkeys : l.toList.map (·.key) = m.map fun p => Value.string p.1 := by
      have := congrArg (List.map (·.1)) hl
      simpa [Mp.Lies, List.map_map, Function.comp_def, strV] using this
    have : (l.toList.map (·.key)).Pairwise (· ≠ ·) := by
      rw [hkeys, List.pairwise_map]
      have hn' : m.Pairwise fun p q => p.1 ≠ q.1 := by
        have := hn
        unfold List.Nodup at this
        rwa [List.pairwise_map] at this
      refine hn'.imp ?_
      intro a b hab he
      apply hab
      simpa using he
    rwa [List.pairwise_map] at this
  · intro x hx
    obtain ⟨j, hj⟩ := List.mem_iff_getElem?.1 hx
    obtain ⟨p, _, hr⟩ := hrd j x hj
    exact ⟨_, hr⟩
  · simp only [strKeys]
    have := (WideShapes.sorted_perm (l.toList.map (rg Tryz.prog 9 R))).map fun p => strOf p.1
    refine this.trans ?_
    rw [hrg, List.map_map]
    exact List.Perm.refl _
  · rw [Maps.size_eq, (WideShapes.sorted_perm _).length_eq]
    rw [List.length_map, hlen]

/-- The names of a row of names, sorted. -/
def sortedNames (m : List (ByteArray × Nat)) : List (List UInt8) := (m.map fun p => p.1.data.toList).mergeSort (fun x y => decide (x ≤ y))

theorem leU_trans (x y z : List UInt8) : decide (x ≤ y) = true → decide (y ≤ z) = true → decide (x ≤ z) = true := by
  simp only [decide_eq_true_eq]; exact fun h1 h2 => List.le_trans h1 h2
theorem leU_total (x y : List UInt8) : (decide (x ≤ y) || decide (y ≤ x)) = true := by
  simp only [Bool.or_eq_true, decide_eq_true_eq]; exact List.le_total x y

theorem sorted_unique {l1 l2 : List (List UInt8)} (hp : l1.Perm l2) : l1.mergeSort (fun x y => decide (x ≤ y)) = l2.mergeSort (fun x y => decide (x ≤ y)) := by
  have q1 := List.pairwise_mergeSort (le := fun x y : List UInt8 => decide (x ≤ y)) leU_trans leU_total l1
  have q2 := List.pairwise_mergeSort (le := fun x y : List UInt8 => decide (x ≤ y)) leU_trans leU_total l2
  have hp2 : (l1.mergeSort (fun x y => decide (x ≤ y))).Perm (l2.mergeSort (fun x y => decide (x ≤ y))) := (List.mergeSort_perm l1 _).trans (hp.trans (List.mergeSort_perm l2 _).symm)
  exact List.Perm.eq_of_pairwise (fun a b _ _ h1 h2 => by simp only [decide_eq_true_eq] at h1 h2; exact List.le_antisymm h1 h2) q1 q2 hp2

set_option maxRecDepth 100000 in
theorem keys_any (r : Option Nat) (w : World) : Calls Tryz.prog 40 #[.map r] w fun e w' => e = .returned (.func (.func 66) #[] #[.pointer (some ⟨w.heap.size, 0, none⟩)]) ∧ w' = w.alloc (.cells #[.map r] 51) := by
  go_enter Tryz.func40, Tryz.ntmps40
  go_wp2
  go_ret
  exact ⟨rfl, rfl⟩

set_option maxRecDepth 100000 in
theorem list_any (own : Own) (a : Nat) (D : DiskA) (w : World) (h : DiskIs w own a D) (hs : ∀ p ∈ D.seen, p.1.size ≤ maxLen) (hm : D.seen.length ≤ 1000000) :
    Calls Tryz.prog 17 #[.pointer (some ⟨a, 0, none⟩)] w fun e w' => ∃ v, e = .returned v ∧ w'.ownsRow w.heap.size 9 1 v D.seen.length ((sortedNames D.seen).map encStr) ∧ (v = .slice none 0 0 ↔ D.seen = []) ∧ Below w.heap.size w w' := by
  obtain ⟨ms, mk, mf, lv, h1, h2⟩ := h.out
  have c4 : w.cell? ⟨a, 4, none⟩ = some ms := cells_of h1 4
  have hlt : a < w.heap.size := h.here a _ h.role
  have HS := Lib.hid hs; have HM := Lib.hid hm; have H2 := Lib.hid h2
  clear h1 h2 h hs hm
  go_enter Tryz.func17, Tryz.ntmps17
  obtain ⟨rm, rfl⟩ : ∃ r, ms = .map r := by
    rcases H2.out.seen with ⟨h, _⟩ | ⟨b, h, _⟩
    · exact ⟨_, h⟩
    · exact ⟨_, h⟩
  go_wp2_with fail
  refine (keys_any rm w).mono ?_
  rintro e w1 ⟨rfl, hw1⟩
  have hcell : w1.cell? ⟨w.heap.size, 0, none⟩ = some (.map rm) := by rw [hw1]; exact World.cell?_alloc_new w _ _ 0
  have hz : w1.heap.size = w.heap.size + 1 := by rw [hw1]; simp
  have hb1 : Below w.heap.size w w1 := by rw [hw1]; exact (Below.refl _ _).alloc (Nat.le_refl _) _
  clear hw1
  have hcall : Calls Tryz.prog 39 #[.func (.func 66) #[] #[.pointer (some ⟨w.heap.size, 0, none⟩)]] w1 fun e w' => ∃ (v : Value), e = .returned v ∧ w'.ownsRow w.heap.size 9 1 v D.seen.length ((sortedNames D.seen).map encStr) ∧ (v = .slice none 0 0 ↔ D.seen = []) ∧ Below w.heap.size w w' := by
    rcases H2.out.seen with ⟨he, hs0⟩ | ⟨b, he, _, hmb⟩ <;> cases he
    · refine (Tryz.sorted_keys_nil_at w.heap.size w1 hcell (by omega)).mono ?_
      rintro e w2 ⟨v, ss, rfl, rfl, hown, hnil, hb2⟩
      have hvn := hnil.2 rfl
      subst hvn
      exact ⟨_, rfl, by rw [hs0, show (sortedNames []).map encStr = [] by simp [sortedNames]]; exact World.ownsRow_nil _ _ _ _, by simp [hs0], hb1.trans (hb2.mono (by omega))⟩
    · have hmb1 : Mp.Is w1 b strV natV D.seen := hmb.of_heap (hb1.block b hmb.lt)
      obtain ⟨D0, nn, ho, hperm, hsz⟩ := own_names hmb1 HS.out HM.out
      refine (Tryz.sorted_keys_at w.heap.size b nn D0 _ w1 ho hcell (by omega) (by rw [hsz]; have := HM.out; unfold maxLen; omega) (by rw [hsz]; have := HM.out; omega)).mono ?_
      rintro e w2 ⟨v, ss, rfl, hp, hown, hnil, hb2⟩
      have hpp := hp.trans hperm
      have hll : ss.length = D.seen.length := by rw [hpp.length_eq, List.length_map]
      refine ⟨v, rfl, ?_, ?_, hb1.trans (hb2.mono (by omega))⟩
      · have he : ss.mergeSort (fun x y => decide (x ≤ y)) = sortedNames D.seen := sorted_unique hpp
        rw [he, hll] at hown
        refine ⟨hown.1, ?_⟩
        rcases hown.2 with hh | ⟨g, c, cur, q1, q2, q3⟩
        · exact .inl hh
        · exact .inr ⟨g, c, cur, q1, by omega, q3⟩
      · rw [hnil]
        constructor
        · intro h0; rw [h0] at hll; exact List.eq_nil_of_length_eq_zero hll.symm
        · intro h0; rw [h0] at hll; exact List.eq_nil_of_length_eq_zero hll
  have HC := Lib.hid hcall
  clear hcall hcell hz hb1 c4 hlt
  go_wp2_with fail
  refine HC.out.mono ?_
  rintro e w2 ⟨v, rfl, hown, hnil, hb⟩
  have HO := Lib.hid hown; have HN := Lib.hid hnil; have HB := Lib.hid hb
  clear hown hnil hb
  go_wp2
  go_ret
  exact ⟨_, rfl, HO.out, HN.out, HB.out⟩
end Go.Proofs.YtldkeelgnfegeaaGreat

/- The disk: one file behind a crash. -/
namespace Go.Proofs.YtldkeelgnfegeaaGreat
open Go Go.RowKit Go.By

theorem lots_lasts (lb : Nat) (bv : Value) (bits : List Nat) : Lasts 32 #[.pointer (some ⟨lb, 0, none⟩)] (fun k => k = lb ∨ (bits ≠ [] ∧ bv.ownBlock = some k)) (some lb) (fun i w => LotsIs lb bv bits i w) (drawBit bits) where
  call := fun i w h hi => draw_any lb bv bits i w h hi
  stay := by
    intro i w w' h hs
    refine ⟨(hs lb (.inl rfl)).trans h.heap, ⟨?_, h.bytes.small, h.bytes.short⟩, h.apart⟩
    rcases h.bytes.out with h1 | h1 | ⟨b, off, cap, h1, h2, hc⟩
    · exact .inl h1
    · exact .inr (.inl h1)
    · refine .inr (.inr ⟨b, off, cap, h1, h2, fun j hj => ?_⟩)
      have hb : w'.heap[b]? = w.heap[b]? := hs b (.inr ⟨by rintro rfl; simp at hj, by rw [h1]; rfl⟩)
      exact (World.cell?_of_block hb).trans (hc j hj)
  here := by
    intro i w k h hk
    rcases hk with rfl | ⟨hne, hk⟩
    · exact (Array.getElem?_eq_some_iff.1 h.heap).1
    · rcases h.bytes.out with ⟨_, h1⟩ | ⟨_, _, h1⟩ | ⟨b, off, cap, h1, h2, hc⟩
      · exact absurd h1 hne
      · exact absurd h1 hne
      · rw [h1] at hk; cases hk
        have hl : 0 < bits.length := by cases bits with
          | nil => exact absurd rfl hne
          | cons x xs => simp
        exact block_lt_of_cell (hc 0 hl)
  own := fun k h => by cases h; exact .inl rfl
  enter := by intro args w; kernel_rfl

/-- How many of n operations on names survive. -/
def firstOf (bits : List Nat) (n : Nat) : Nat := if bits = [] then 0 else atB bits 0 % (n + 1)
theorem firstOf_le (bits : List Nat) (n : Nat) : firstOf bits n ≤ n := by
  unfold firstOf; split
  · omega
  · have := Nat.mod_lt (atB bits 0) (show 0 < n + 1 by omega); omega

set_option maxRecDepth 100000 in
theorem firstOf_any (v : Value) (bits : List Nat) (n : Nat) (w : World) (hv : Bytes w v bits) (hn : n ≤ 1000000000) :
    Calls Tryz.prog 30 #[v, .int .i64 n] w fun e w' => e = .returned (.int .i64 (firstOf bits n : Nat)) ∧ w = w' := by
  obtain ⟨p, c, rfl, hsp⟩ := hv.any
  have hm := hv.short
  unfold maxLen at hm
  by_cases h0 : bits = []
  · subst h0
    have hf : Hid (firstOf [] n = 0) := rfl
    clear hsp hv
    go_enter Tryz.func30, Tryz.ntmps30
    go_wp2
    go_ret
    rw [hf.out]
    exact ⟨rfl, rfl⟩
  · have hl : 0 < bits.length := by cases bits with
      | nil => exact absurd rfl h0
      | cons x xs => simp
    obtain ⟨b, off, rfl, hcell⟩ := hsp 0 hl
    rw [Nat.add_zero] at hcell
    have hx := hv.at_lt hl
    have hf : Hid (firstOf bits n = atB bits 0 % (n + 1)) := if_neg h0
    have hne : ((bits.length : Int) == 0) = false := beq_eq_false_iff_ne.2 (by omega)
    have hl0 : 0 < (bits.length : Int) := by omega
    obtain ⟨x, hxx⟩ : ∃ x, atB bits 0 = x := ⟨_, rfl⟩
    rw [hxx] at hcell hx
    have hx0 : (x : Int) < 256 := by omega
    obtain ⟨y, hy⟩ : ∃ y, x % (n + 1) = y := ⟨_, rfl⟩
    have hm1 : (x : Int) % ((n : Int) + 1) = y := by rw [← hy]; simp
    have hm2 : Int.tmod (x : Int) ((n : Int) + 1) = y := by rw [Int.tmod_eq_emod_of_nonneg (by omega)]; exact hm1
    have hn1 : (n : Int) ≤ 1000000000 := by omega
    have HX := Lib.hid hxx; have HY := Lib.hid hy
    clear hsp hv hxx hx hy h0 hl hm hn
    go_enter Tryz.func30, Tryz.ntmps30
    go_wp2
    go_ret
    rw [hf.out, HX.out, HY.out]
    exact ⟨rfl, rfl⟩

/-- What is seen of a file is laid anew. -/
theorem FileIs.reseen {w w1 : World} {own : Own} {n fb : Nat} {F : FileA} {v : Value} {l : List Nat} (h : FileIs w own n fb F) (here : ∀ k r, own k = some r → k < w.heap.size) (hb : Below w.heap.size w w1)
    (hv : w1.ownsRow 0 5 1 v l.length (cellsOf l)) (hk : ∀ k, v.ownBlock = some k → w.heap.size ≤ k) (hs : ∀ c ∈ l, c < 256) :
    ∃ own', FileIs (w1.setCell ⟨fb, 0, none⟩ v) own' n fb { F with seen := l } ∧ FileStep n none own own' w (w1.setCell ⟨fb, 0, none⟩ v) := by
  obtain ⟨⟨sv, kv, lv, cs, h1, h2, h3, h4, h5, h6⟩, hr, hbf⟩ := h
  have hfl := here fb _ hr
  have hw1 : w1.heap[fb]? = some (.cells #[sv, kv, lv] 75 (0, 0)) := (hb.block fb hfl).trans h1
  have s0 := set_heap hw1 0 v
  have hvl : ∀ k, v.ownBlock = some k → k < w1.heap.size := fun k hk => (hv.lt k hk).2
  obtain ⟨own', p1, p2, p3, p4⟩ := own_went (own := own) (w := w) (w' := w1) here (v := .slice none 0 0) (v' := v) (r := .fseen n) (fun k hk => by cases hk) (by
    cases hb : v.ownBlock with
    | none => exact .inl rfl
    | some q => exact .inr ⟨q, rfl, hk q hb⟩) hvl
  have hz : (w1.setCell ⟨fb, 0, none⟩ v).heap.size = w1.heap.size := by simp
  have stay : Stay own own' (fun r => r ≠ .file n) w (w1.setCell ⟨fb, 0, none⟩ v) := ⟨p2, fun k r hkr hne => (s0.2 k (by rintro rfl; rw [hr] at hkr; cases hkr; exact hne rfl)).trans (hb.block k (here k r hkr))⟩
  refine ⟨own', ⟨⟨v, kv, lv, cs, s0.1, ⟨ownsRow_of_heap hv fun k hkv => s0.2 k (by rintro rfl; have := hk _ hkv; omega), p3, hs⟩, h3.stay stay (by simp), ownsRow_of_heap h4 fun k hkr => stay.block k _ (h5 k hkr) (by simp), fun k hkr => p2 k _ (h5 k hkr), h6.stay stay (by simp)⟩, p2 fb _ hr, fun lv' hl h0 => (third_cell s0.1 (x := lv) (by simp) hl).trans (hbf lv (by rw [cell_of_row w fb 2 _ _ _ h1]; rfl) h0)⟩,
    ⟨⟨hb.os, hb.tape, hb.output, by rw [hz]; exact hb.size, fun k hkl hn => ?_⟩, p1, p2, fun k r hkr => ?_⟩⟩
  · exact (s0.2 k (by rintro rfl; exact hn (.inl ⟨_, hr, .inl rfl⟩))).trans (hb.block k hkl)
  · rcases p4 k r hkr with h' | ⟨q1, q2, rfl⟩
    · exact .inl h'
    · exact .inr ⟨q1, by rw [hz]; exact q2, .inl (.inr (.inl rfl))⟩

theorem redoOps_at {bit : Nat → Bool} {w : World} {own : Own} : ∀ {cs : List Value} {l : List ByteOp}, OpsV w own cs l → ∀ (i : Nat) (m : List Nat), (redoOps bit l i m).2 ≤ i + l.length * 1048576
  | [], _, h, i, m => by simp only [OpsV] at h; subst h; simp [redoOps]
  | _ :: _, _, h, i, m => by
    obtain ⟨o, os, rfl, h1, h2⟩ := h
    have a1 := redoOp_at (bit := bit) h1 i m
    have a2 := redoOps_at (bit := bit) h2 (redoOp bit o i m).2 (redoOp bit o i m).1
    simp only [redoOps, List.length_cons]
    omega
theorem redoOps_small {bit : Nat → Bool} {w : World} {own : Own} : ∀ {cs : List Value} {l : List ByteOp}, OpsV w own cs l → ∀ (i : Nat) {m : List Nat}, (∀ c ∈ m, c < 256) → ∀ c ∈ (redoOps bit l i m).1, c < 256
  | [], _, h, i, m, hm => by simp only [OpsV] at h; subst h; exact hm
  | _ :: _, _, h, i, m, hm => by
    obtain ⟨o, os, rfl, h1, h2⟩ := h
    simp only [redoOps]
    exact redoOps_small h2 _ (redoOp_small h1 hm)
end Go.Proofs.YtldkeelgnfegeaaGreat

/- The disk: Crash, as lists. -/
namespace Go.Proofs.YtldkeelgnfegeaaGreat
open Go Go.RowKit Go.By

def crashFile (bits : List Nat) (x : DiskA × Nat) (s : ByteArray) : DiskA × Nat :=
  let n := (Mp.get x.1.seen s).getD 0
  let r := redoOps (drawBit bits) (x.1.cont n).laid x.2 (x.1.cont n).kept
  ({ (x.1.withFile n ⟨r.1, r.1, []⟩) with used := x.1.used + (r.1.length : Int) }, r.2)
def crashFiles (bits : List Nat) (l : List ByteArray) (x : DiskA × Nat) : DiskA × Nat := l.foldl (crashFile bits) x
theorem crashFiles_snoc (bits : List Nat) (l : List ByteArray) (s : ByteArray) (x : DiskA × Nat) : crashFiles bits (l ++ [s]) x = crashFile bits (crashFiles bits l x) s := by simp [crashFiles]

/-- What stays the same, file by file. -/
structure SameNames (D D' : DiskA) : Prop where
  seen : D'.seen = D.seen
  kept : D'.kept = D.kept
  laid : D'.laid = D.laid
  fm : D'.fm = D.fm
  room : D'.room = D.room
  ops : D'.ops = D.ops
  left : D'.left = D.left
  made : D'.made = D.made
theorem crashFiles_same (bits : List Nat) : ∀ (l : List ByteArray) (x : DiskA × Nat), SameNames x.1 (crashFiles bits l x).1
  | [], _ => ⟨rfl, rfl, rfl, rfl, rfl, rfl, rfl, rfl⟩
  | s :: l, x => by
    have h := crashFiles_same bits l (crashFile bits x s)
    exact ⟨h.seen, h.kept, h.laid, h.fm, h.room, h.ops, h.left, h.made⟩

/-- No file has too much to be done again, and none becomes too long. -/
structure CrashFits (bits : List Nat) (D : DiskA) : Prop where
  laid : ∀ n, (D.cont n).laid.length ≤ 1000000
  long : ∀ n i, (redoOps (drawBit bits) (D.cont n).laid i (D.cont n).kept).1.length ≤ 1099511627776
theorem CrashFits.step {bits : List Nat} {x : DiskA × Nat} (h : CrashFits bits x.1) (s : ByteArray) : CrashFits bits (crashFile bits x s).1 where
  laid := fun n => by
    show (if n = _ then (⟨_, _, []⟩ : FileA) else x.1.cont n).laid.length ≤ _
    split
    · exact Nat.zero_le _
    · exact h.laid n
  long := fun n i => by
    show (redoOps (drawBit bits) (if n = _ then (⟨_, _, []⟩ : FileA) else x.1.cont n).laid i (if n = _ then (⟨_, _, []⟩ : FileA) else x.1.cont n).kept).1.length ≤ _
    split
    · exact h.long _ _
    · exact h.long n i
theorem CrashFits.steps {bits : List Nat} : ∀ (l : List ByteArray) {x : DiskA × Nat}, CrashFits bits x.1 → CrashFits bits (crashFiles bits l x).1
  | [], _, h => h
  | s :: l, x, h => CrashFits.steps l (x := crashFile bits x s) (h.step s)

theorem crash_used {bits : List Nat} : ∀ (l : List ByteArray) {x : DiskA × Nat}, CrashFits bits x.1 → x.1.used ≤ (crashFiles bits l x).1.used ∧ (crashFiles bits l x).1.used ≤ x.1.used + l.length * 1099511627776
  | [], x, h => ⟨Int.le_refl _, by show x.1.used ≤ x.1.used + 0 * _; omega⟩
  | s :: l, x, h => by
    have h1 := crash_used l (x := crashFile bits x s) (h.step s)
    have h2 : (crashFile bits x s).1.used = x.1.used + ((redoOps (drawBit bits) (x.1.cont ((Mp.get x.1.seen s).getD 0)).laid x.2 (x.1.cont ((Mp.get x.1.seen s).getD 0)).kept).1.length : Int) := rfl
    have h3 := h.long ((Mp.get x.1.seen s).getD 0) x.2
    have h4 : crashFiles bits (s :: l) x = crashFiles bits l (crashFile bits x s) := rfl
    rw [h4, List.length_cons]
    omega

/-- A step that turns one block more, which is not the disk's. -/
structure StepsL (lb : Nat) (own own' : Own) (w w' : World) : Prop where
  os : w'.os = w.os
  tape : w'.tape = w.tape
  output : w'.output = w.output
  size : w.heap.size ≤ w'.heap.size
  block : ∀ k, k < w.heap.size → k ≠ lb → (own k = none ∨ own k = some .ink) → w'.heap[k]? = w.heap[k]?
  same : ∀ k, k < w.heap.size → own' k = own k
theorem StepsL.refl (lb : Nat) (own : Own) (w : World) : StepsL lb own own w w := ⟨rfl, rfl, rfl, Nat.le_refl _, fun _ _ _ _ => rfl, fun _ _ => rfl⟩
theorem StepsL.trans {lb : Nat} {o1 o2 o3 : Own} {w1 w2 w3 : World} (h : StepsL lb o1 o2 w1 w2) (k : StepsL lb o2 o3 w2 w3) : StepsL lb o1 o3 w1 w3 :=
  ⟨k.os.trans h.os, k.tape.trans h.tape, k.output.trans h.output, Nat.le_trans h.size k.size,
    fun b hb hl hn => (k.block b (Nat.lt_of_lt_of_le hb h.size) hl (by rw [h.same b hb]; exact hn)).trans (h.block b hb hl hn),
    fun b hb => (k.same b (Nat.lt_of_lt_of_le hb h.size)).trans (h.same b hb)⟩
theorem StepsL.of_steps {lb : Nat} {o1 o2 : Own} {w1 w2 : World} (h : Steps o1 o2 w1 w2) : StepsL lb o1 o2 w1 w2 := ⟨h.os, h.tape, h.output, h.size, fun k hk _ hn => h.block k hk hn, h.same⟩
theorem StepsL.of_file {n lb : Nat} {own own' : Own} {w w' : World} (hs : FileStep n (some lb) own own' w w') : StepsL lb own own' w w' :=
  ⟨hs.turned.os, hs.turned.tape, hs.turned.output, hs.turned.size, fun k hk hl hn => hs.turned.block k hk (by
    rintro (⟨r, h1, h2⟩ | h)
    · rcases hn with hn | hn
      · rw [hn] at h1; cases h1
      · rw [hn] at h1; cases h1; rcases h2 with h | h | h | h <;> cases h
    · cases h; exact hl rfl), hs.same⟩
theorem StepsL.lead {lb : Nat} {o1 o2 o3 : Own} {w1 w2 w3 : World} (h : Steps o1 o2 w1 w2) (k : StepsL lb o2 o3 w2 w3) (hl : w1.heap.size ≤ lb) : Steps o1 o3 w1 w3 :=
  ⟨k.os.trans h.os, k.tape.trans h.tape, k.output.trans h.output, Nat.le_trans h.size k.size,
    fun b hb hn => (k.block b (Nat.lt_of_lt_of_le hb h.size) (by omega) (by rw [h.same b hb]; exact hn)).trans (h.block b hb hn),
    fun b hb => (k.same b (Nat.lt_of_lt_of_le hb h.size)).trans (h.same b hb)⟩

/-- The names, as texts. -/
def namesOf (m : List (ByteArray × Nat)) : List ByteArray := (sortedNames m).map fun l => ⟨l.toArray⟩
theorem namesOf_length (m : List (ByteArray × Nat)) : (namesOf m).length = m.length := by simp [namesOf, sortedNames, List.length_mergeSort]
theorem namesOf_mem {m : List (ByteArray × Nat)} {s : ByteArray} (h : s ∈ namesOf m) : ∃ n, (s, n) ∈ m := by
  obtain ⟨l, hl, rfl⟩ := List.mem_map.1 h
  have : l ∈ m.map fun p => p.1.data.toList := (List.mergeSort_perm _ _).mem_iff.1 hl
  obtain ⟨p, hp, rfl⟩ := List.mem_map.1 this
  exact ⟨p.2, hp⟩
theorem namesOf_cells (m : List (ByteArray × Nat)) : (sortedNames m).map encStr = (namesOf m).map strV := by
  simp [namesOf, List.map_map, Function.comp_def, encStr, strV]

theorem withFile_twice (D : DiskA) (n : Nat) (F G : FileA) : (D.withFile n F).withFile n G = D.withFile n G := by
  unfold DiskA.withFile
  congr 1
  funext k
  by_cases h : k = n <;> simp [h]

/-- One file behind a crash: what the walk needs, put together. -/
theorem crash_file_done {own own6 own8 : Own} {a n fb lb i : Nat} {x : DiskA × Nat} {s : ByteArray} {bits : List Nat} {wr w6 w8 : World} (h : DiskIs wr own a x.1) (hx : x.2 = i) (hs : Mp.get x.1.seen s = some n) (hfb : Mp.get x.1.fm n = some fb)
    (hlb : ∀ k r, own k = some r → lb ≠ k)
    (f6 : FileIs w6 own6 n fb { x.1.cont n with kept := (redoOps (drawBit bits) (x.1.cont n).laid i (x.1.cont n).kept).1, laid := [] }) (s6 : FileStep n (some lb) own own6 wr w6)
    (f8 : FileIs w8 own8 n fb { x.1.cont n with seen := (redoOps (drawBit bits) (x.1.cont n).laid i (x.1.cont n).kept).1, kept := (redoOps (drawBit bits) (x.1.cont n).laid i (x.1.cont n).kept).1, laid := [] }) (s8 : FileStep n none own6 own8 w6 w8) :
    DiskIs w8 own8 a (x.1.withFile n ⟨(redoOps (drawBit bits) (x.1.cont n).laid i (x.1.cont n).kept).1, (redoOps (drawBit bits) (x.1.cont n).laid i (x.1.cont n).kept).1, []⟩) ∧ StepsL lb own own8 wr w8 := by
  have d6 := h.filed hfb f6 s6 (fun k r hk e => by cases e; exact hlb _ r hk rfl)
  have hfb6 : Mp.get (x.1.withFile n { x.1.cont n with kept := (redoOps (drawBit bits) (x.1.cont n).laid i (x.1.cont n).kept).1, laid := [] }).fm n = some fb := hfb
  have d8 := d6.filed hfb6 f8 s8 (fun _ _ _ e => by cases e)
  rw [withFile_twice] at d8
  exact ⟨d8, (StepsL.of_file s6).trans (StepsL.of_steps s8.steps)⟩
theorem crashFile_eq {x : DiskA × Nat} {s : ByteArray} {n : Nat} {bits : List Nat} (hs : Mp.get x.1.seen s = some n) :
    crashFile bits x s = ({ (x.1.withFile n ⟨(redoOps (drawBit bits) (x.1.cont n).laid x.2 (x.1.cont n).kept).1, (redoOps (drawBit bits) (x.1.cont n).laid x.2 (x.1.cont n).kept).1, []⟩) with used := x.1.used + ((redoOps (drawBit bits) (x.1.cont n).laid x.2 (x.1.cont n).kept).1.length : Int) }, (redoOps (drawBit bits) (x.1.cont n).laid x.2 (x.1.cont n).kept).2) := by
  unfold crashFile
  rw [hs]; rfl
end Go.Proofs.YtldkeelgnfegeaaGreat

/- The disk: Crash. -/
namespace Go.Proofs.YtldkeelgnfegeaaGreat
open Go Go.RowKit Go.By

/-- What stands behind some files of a crash. -/
structure Crashing (w5 wr : World) (own5 : Own) (a lb : Nat) (bv : Value) (bits : List Nat) (x : DiskA × Nat) : Prop where
  out : ∃ own', DiskIs wr own' a x.1 ∧ StepsL lb own5 own' w5 wr
  lots : LotsIs lb bv bits x.2 wr
  ok : x.1.Ok

theorem Crashing.drew {w5 wr : World} {own5 : Own} {a lb : Nat} {bv : Value} {bits : List Nat} {x : DiskA × Nat} (h : Crashing w5 wr own5 a lb bv bits x) : Crashing w5 wr.drew own5 a lb bv bits x := by
  obtain ⟨own', h1, h2⟩ := h.out
  exact ⟨⟨own', h1.same rfl, h2.trans (show StepsL lb own' own' wr wr.drew from ⟨rfl, rfl, rfl, Nat.le_refl _, fun _ _ _ _ => rfl, fun _ _ => rfl⟩)⟩, (lots_lasts lb bv bits).stay _ wr _ h.lots (fun _ _ => rfl), h.ok⟩

/-- How Crash ends, as lists. -/
def crashed (bits : List Nat) (D : DiskA) (fm' : List (Nat × Nat)) : DiskA :=
  let D2 := ({ D with left := 0 } : DiskA).settled (firstOf bits D.laid.length) fm'
  (crashFiles bits (namesOf D2.seen) ({ D2 with used := 0 }, 0)).1

set_option maxRecDepth 100000 in
set_option maxHeartbeats 1000000 in
theorem crash_any (own : Own) (a : Nat) (D : DiskA) (bv : Value) (bits : List Nat) (w : World) (h : DiskIs w own a D) (hok : D.Ok) (hb : Bytes w bv bits) (hbo : bits ≠ [] → ∀ k, bv.ownBlock = some k → own k = none)
    (hlen : D.laid.length < 1000000) (ht : ∀ o ∈ D.laid, o.told = true) (hf : CrashFits bits D) (hsn : (redoNames (D.laid.take (firstOf bits D.laid.length)) D.kept).length ≤ 1000000) (hss : ∀ p ∈ redoNames (D.laid.take (firstOf bits D.laid.length)) D.kept, p.1.size ≤ maxLen) :
    Calls Tryz.prog 12 #[.pointer (some ⟨a, 0, none⟩), bv] w fun e w' => e = .returned (.tuple #[]) ∧ ∃ own' fm', Steps own own' w w' ∧ DiskIs w' own' a (crashed bits D fm') ∧ (crashed bits D fm').Ok ∧ Kept D.fm (redoNames (D.laid.take (firstOf bits D.laid.length)) D.kept) fm' := by
  obtain ⟨pb, cb, hbv⟩ : ∃ p c, bv = .slice p bits.length c := let ⟨p, c, h, _⟩ := hb.any; ⟨p, c, h⟩
  have s3 : DiskIs (w.setCell ⟨a, 3, none⟩ (.int .i64 0)) own a { D with left := 0 } ∧ Steps own own w (w.setCell ⟨a, 3, none⟩ (.int .i64 0)) := h.setLeft 0
  obtain ⟨ms, mk, mf, lv, h1, h2⟩ := h.out
  have c3 : w.cell? ⟨a, 3, none⟩ = some (.int .i64 D.left) := cells_of h1 3
  have f3 := free_of h1 3
  have hlt : a < w.heap.size := h.here a _ h.role
  have hne : ∀ w : World, (binOp .eql 25 (.pointer (some ⟨a, 0, none⟩)) (.pointer none)).run Tryz.prog w = .ok (.bool false) w := fun w => by kernel_rfl
  obtain ⟨pl, cl, hlv⟩ : ∃ p c, lv = .slice p D.laid.length c := by
    rcases h2.laid.2 with ⟨h, h0⟩ | ⟨g, c, _, h, _⟩
    · exact ⟨none, 0, by rw [h, h0]⟩
    · exact ⟨_, c, h⟩
  subst hlv
  subst hbv
  have c6 : w.cell? ⟨a, 6, none⟩ = some (.slice pl D.laid.length cl) := cells_of h1 6
  have hb1 : Bytes (w.setCell ⟨a, 3, none⟩ (.int .i64 0)) (.slice pb bits.length cb) bits := Bytes.stepsE hb s3.2 (fun hne k hk => .inl (hbo hne k hk))
  have S3 := Lib.hid s3; have H := Lib.hid h; have HOK := Lib.hid hok; have HB := Lib.hid hb; have HBO := Lib.hid hbo; have HB1 := Lib.hid hb1; have HT := Lib.hid ht; have HF := Lib.hid hf; have HSN := Lib.hid hsn; have HSS := Lib.hid hss
  clear s3 h hok hb hbo hb1 ht hf hsn hss h1 h2
  go_enter Tryz.func12, Tryz.ntmps12
  go_wp2_with fail
  refine (firstOf_any _ bits D.laid.length _ HB1.out (by omega)).mono ?_
  rintro e w1 ⟨rfl, rfl⟩
  have hset := settle_any own a (firstOf bits D.laid.length) { D with left := 0 } _ S3.out.1 ⟨HOK.out.seenIn, HOK.out.keptIn, HOK.out.laidIn, HOK.out.made⟩ (firstOf_le _ _) hlen HT.out
  have HSET := Lib.hid hset
  clear hset c3 f3 c6
  go_wp2_with fail
  refine HSET.out.mono ?_
  rintro e w2 ⟨rfl, own2, fm', hs2, hd2, hk2⟩
  have hin := redo_in (D := { D with left := 0 }) ⟨HOK.out.seenIn, HOK.out.keptIn, HOK.out.laidIn, HOK.out.made⟩ (by
    obtain ⟨_, _, _, _, _, h2⟩ := H.out.out
    exact h2.kept.nodup) HT.out (firstOf bits D.laid.length)
  have hok2 := DiskA.settled_ok (D := { D with left := 0 }) ⟨HOK.out.seenIn, HOK.out.keptIn, HOK.out.laidIn, HOK.out.made⟩ hk2 hin
  obtain ⟨D2, hD2⟩ : ∃ D2, D2 = ({ D with left := 0 } : DiskA).settled (firstOf bits D.laid.length) fm' := ⟨_, rfl⟩
  have hD2s : D2.seen = redoNames (D.laid.take (firstOf bits D.laid.length)) D.kept := by rw [hD2]; rfl
  have hD2c : D2.cont = D.cont := by rw [hD2]; rfl
  rw [← hD2] at hd2 hok2
  have s1 : DiskIs (w2.setCell ⟨a, 1, none⟩ (.int .i64 0)) own2 a { D2 with used := 0 } ∧ Steps own2 own2 w2 (w2.setCell ⟨a, 1, none⟩ (.int .i64 0)) := hd2.setUsed 0
  obtain ⟨ms2, mk2, mf2, lv2, k1, _⟩ := hd2.out
  have q1 : w2.cell? ⟨a, 1, none⟩ = some (.int .i64 D2.used) := cells_of k1 1
  have g1 := free_of k1 1
  have hsw1 := S3.out.2.trans hs2
  have HH2 := Lib.hid hd2.here
  have hsz2 : w.heap.size ≤ w2.heap.size := by have := hs2.size; simpa using this
  have HSZ2 := Lib.hid hsz2
  clear hsz2
  -- the lots
  obtain ⟨w4, hw4⟩ : ∃ w4, w4 = (w2.setCell ⟨a, 1, none⟩ (.int .i64 0)).alloc (.cells #[.slice pb bits.length cb, .int .i64 0] 69) := ⟨_, rfl⟩
  have hb4 : Below (w2.setCell ⟨a, 1, none⟩ (.int .i64 0)).heap.size (w2.setCell ⟨a, 1, none⟩ (.int .i64 0)) w4 := by rw [hw4]; exact (Below.refl _ _).alloc (Nat.le_refl _) _
  have hs4 : Steps own2 own2 (w2.setCell ⟨a, 1, none⟩ (.int .i64 0)) w4 := Steps.of_below hb4
  have hd4 : DiskIs w4 own2 a { D2 with used := 0 } := s1.1.beside (o1 := fun _ => none) (o2 := fun _ => none) ⟨hb4.os, hb4.tape, hb4.output, hb4.size, fun k hk _ => hb4.block k hk, fun _ _ => rfl⟩ (fun _ _ _ => .inl rfl)
  have hlb4 : w4.heap[w2.heap.size]? = some (.cells #[.slice pb bits.length cb, .int .i64 0] 69 (0, 0)) := by
    rw [hw4]
    have := heap_alloc_new (w2.setCell ⟨a, 1, none⟩ (.int .i64 0)) (.cells #[.slice pb bits.length cb, .int .i64 0] 69)
    simpa using this
  have hst4 : Steps own own2 w w4 := (hsw1.trans s1.2).trans hs4
  have hby4 : Bytes w4 (.slice pb bits.length cb) bits := Bytes.stepsE HB.out hst4 (fun hne k hk => .inl (HBO.out hne k hk))
  have hl := list_any own2 a { D2 with used := 0 } w4 hd4 (by show ∀ p ∈ D2.seen, _; rw [hD2s]; exact HSS.out) (by show D2.seen.length ≤ _; rw [hD2s]; exact HSN.out)
  have HL := Lib.hid hl; have HD4 := Lib.hid hd4; have HST4 := Lib.hid hst4; have HBY4 := Lib.hid hby4; have HLB4 := Lib.hid hlb4; have HOK2 := Lib.hid hok2; have HK2 := Lib.hid hk2; have HD2 := Lib.hid hD2; have HD2S := Lib.hid hD2s; have HD2C := Lib.hid hD2c
  have HW4 := Lib.hid hw4
  clear hl hd4 hst4 hby4 hlb4 hok2 hk2 hD2 hD2s hD2c hs4 hb4 s1 hsw1 hin hd2 hs2 k1 hw4
  go_wp2_with fail
  rw [← HW4.out]
  refine HL.out.mono ?_
  rintro e w5 ⟨v, rfl, hown, hnil, hb5⟩
  -- the loop begins
  obtain ⟨pv, cv, hv⟩ : ∃ p c, v = .slice p D2.seen.length c := by
    rcases hown.2 with ⟨h, h0⟩ | ⟨g, c, _, h, _⟩
    · exact ⟨none, 0, by rw [h, h0]⟩
    · exact ⟨_, c, h⟩
  subst hv
  have hd5 : DiskIs w5 own2 a { D2 with used := 0 } := HD4.out.beside (o1 := fun _ => none) (o2 := fun _ => none) ⟨hb5.os, hb5.tape, hb5.output, hb5.size, fun k hk _ => hb5.block k hk, fun _ _ => rfl⟩ (fun _ _ _ => .inl rfl)
  have hs5 : Steps own own2 w w5 := HST4.out.trans (Steps.of_below hb5)
  have hlbl : w2.heap.size < w4.heap.size := (Array.getElem?_eq_some_iff.1 HLB4.out).1
  have hw2 : w.heap.size ≤ w2.heap.size := HSZ2.out
  have hlot : LotsIs w2.heap.size (.slice pb bits.length cb) bits 0 w5 := by
    refine ⟨(hb5.block _ hlbl).trans HLB4.out, Bytes.stepsE HB.out hs5 (fun hne k hk => .inl (HBO.out hne k hk)), fun hne he => ?_⟩
    rcases HB.out.out with ⟨_, h1⟩ | ⟨_, _, h1⟩ | ⟨b, off, cap, h1, h2, hc⟩
    · exact hne h1
    · exact hne h1
    · rw [h1] at he; cases he
      have hl : 0 < bits.length := by cases bits with
        | nil => exact absurd rfl hne
        | cons x xs => simp
      have := block_lt_of_cell (hc 0 hl)
      simp at this; omega
  have hcr : Crashing w5 w5 own2 a w2.heap.size (.slice pb bits.length cb) bits (crashFiles bits ((namesOf D2.seen).take 0) ({ D2 with used := 0 }, 0)) := ⟨⟨own2, hd5, StepsL.refl _ _ _⟩, hlot, ⟨HOK2.out.seenIn, HOK2.out.keptIn, HOK2.out.laidIn, HOK2.out.made⟩⟩
  have hspot : ∀ k s, (namesOf D2.seen)[k]? = some s → ∃ g, pv = some ⟨g, 0, none⟩ ∧ g < w5.heap.size ∧ w4.heap.size ≤ g ∧ w5.cell? ⟨g, k, none⟩ = some (.string s) := by
    intro k s hks
    rw [namesOf_cells] at hown
    rcases hown.2 with ⟨_, h0⟩ | ⟨g, c, cur, h, hg1, hg2, _⟩
    · have : k < (namesOf D2.seen).length := (List.getElem?_eq_some_iff.1 hks).1
      rw [namesOf_length] at this
      have h0' : D2.seen.length = 0 := h0
      omega
    · simp only [Value.slice.injEq] at h
      obtain ⟨rfl, _, _⟩ := h
      have := hown.cells (g := g) rfl k (.string s) (by rw [List.getElem?_map, hks]; rfl)
      rw [Addr.add_lit, Nat.zero_add] at this
      exact ⟨g, rfl, (Array.getElem?_eq_some_iff.1 hg2).1, hg1, this⟩
  have hnl : (namesOf D2.seen).length = D2.seen.length := namesOf_length _
  have hsl : D2.seen.length ≤ 1000000 := by rw [HD2S.out]; exact HSN.out
  have hfit : CrashFits bits ({ D2 with used := 0 } : DiskA) := ⟨by show ∀ n, (D2.cont n).laid.length ≤ _; rw [HD2C.out]; exact HF.out.laid, by show ∀ n i, (redoOps (drawBit bits) (D2.cont n).laid i (D2.cont n).kept).1.length ≤ _; rw [HD2C.out]; exact HF.out.long⟩
  have HCL5 : Hid (∃ o, w5.heap[w2.heap.size]? = some o) := ⟨_, hlot.heap⟩
  have HS5 := Lib.hid hs5; have HCR := Lib.hid hcr; have HSP := Lib.hid hspot; have HNL := Lib.hid hnl; have HSL := Lib.hid hsl; have HFIT := Lib.hid hfit; have HW2 := Lib.hid hw2; have HLBL := Lib.hid hlbl; have HD5 := Lib.hid hd5
  clear hown hnil hb5 hd5 hs5 hlbl hw2 hlot hcr hspot hnl hsl hfit q1 g1 HL HLB4 HW4 HBY4 HSET S3 HB1
  go_wp2
  go_loopw [31] (fun i wr => ∃ k : Nat, k ≤ D2.seen.length ∧ i = .int .i64 k ∧ Crashing w5 wr own2 a w2.heap.size (.slice pb bits.length cb) bits (crashFiles bits ((namesOf D2.seen).take k) ({ D2 with used := 0 }, 0)) ∧ (crashFiles bits ((namesOf D2.seen).take k) ({ D2 with used := 0 }, 0)).2 ≤ k * 1048576000000) (fun i _ => D2.seen.length - (intOf i).toNat)
  case atStart => exact ⟨0, by omega, rfl, HCR.out, Nat.zero_le _⟩
  case round =>
    obtain ⟨k, hk, rfl, hcr, hdr⟩ := hrel
    clear HCR
    by_cases hkl : k < D2.seen.length
    · obtain ⟨s, hks⟩ : ∃ s, (namesOf D2.seen)[k]? = some s := ⟨_, List.getElem?_eq_getElem (by rw [HNL.out]; exact hkl)⟩
      obtain ⟨g, rfl, hgl, hg4, hcg⟩ := HSP.out k s hks
      obtain ⟨x, hx⟩ : ∃ x, x = crashFiles bits ((namesOf D2.seen).take k) ({ D2 with used := 0 }, 0) := ⟨_, rfl⟩
      have hnext : crashFiles bits ((namesOf D2.seen).take (k + 1)) ({ D2 with used := 0 }, 0) = crashFile bits x s := by
        have hlk : k < (namesOf D2.seen).length := by rw [HNL.out]; exact hkl
        rw [List.take_succ_eq_append_getElem hlk, crashFiles_snoc, ← hx]
        rw [List.getElem?_eq_getElem hlk] at hks
        rw [Option.some.inj hks]
      have hsm := crashFiles_same bits ((namesOf D2.seen).take k) ({ D2 with used := 0 }, 0)
      have hfx := CrashFits.steps ((namesOf D2.seen).take k) (x := ({ D2 with used := 0 }, 0)) HFIT.out
      have hux := crash_used ((namesOf D2.seen).take k) (x := ({ D2 with used := 0 }, 0)) HFIT.out
      rw [← hx] at hcr hsm hfx hux hdr
      obtain ⟨own', hd', hs'⟩ := hcr.out
      obtain ⟨n, hmem⟩ := namesOf_mem (List.mem_of_getElem? hks)
      have hnd2 : (D2.seen.map (·.1)).Nodup := by
        obtain ⟨_, _, _, _, _, h2⟩ := HD5.out.out
        exact h2.seen.nodup
      have hgs : Mp.get x.1.seen s = some n := by rw [hsm.seen]; exact get_of_mem (p := (s, n)) hnd2 hmem
      obtain ⟨fb, hfb⟩ := Option.isSome_iff_exists.1 (hcr.ok.seenIn s n hgs)
      have hg2 : own2 g = none := by
        cases hh : own2 g with
        | none => rfl
        | some r => have := HD4.out.here g r hh; omega
      have hlb2 : own2 w2.heap.size = none := by
        cases hh : own2 w2.heap.size with
        | none => rfl
        | some r => have := HH2.out _ r hh; omega
      have q6 : wr.cell? ⟨g, k, none⟩ = some (.string s) := (World.cell?_of_block (hs'.block g hgl (by have := HLBL.out; omega) (.inl hg2))).trans hcg
      obtain ⟨ms', mk', mf', lv', k1, k2⟩ := hd'.out
      have c4 : wr.cell? ⟨a, 4, none⟩ = some ms' := cells_of k1 4
      have c8 : wr.cell? ⟨a, 8, none⟩ = some mf' := cells_of k1 8
      have hfile := k2.each n fb hfb
      have X := Lib.hid hx; have NX := Lib.hid hnext; have FX := Lib.hid hfx; have UX := Lib.hid hux; have CR := Lib.hid hcr; have DX := Lib.hid hd'; have SX := Lib.hid hs'; have GS := Lib.hid hgs; have FB := Lib.hid hfb; have FILE := Lib.hid hfile; have LB2 := Lib.hid hlb2; have K1 := Lib.hid k1
      have m1 : MapV wr.drew own' .seen ms' strV natV x.1.seen := k2.seen.stay (R := fun _ => True) ⟨fun _ _ h => h, fun _ _ _ _ => rfl⟩ trivial
      have m2 : MapV wr.drew own' .files mf' natV ptrV x.1.fm := k2.files.stay (R := fun _ => True) ⟨fun _ _ h => h, fun _ _ _ _ => rfl⟩ trivial
      have hl1 := (m1.look strK namesT (zeroInt wr.drew) s).2
      have hl2 := (m2.look natK filesT (zeroFile wr.drew) n).2
      rw [hgs] at hl1
      rw [hfb] at hl2
      simp only [Option.map_some, Option.getD_some] at hl1 hl2
      unfold strV natV at hl1
      unfold natV ptrV at hl2
      clear hx hnext hfx hux hcr hd' hs' hgs hfb hfile hlb2 k1 k2 m1 m2 hsm hnd2 hmem hks hcg hgl hg4 hg2
      have hux1 : 0 ≤ x.1.used ∧ x.1.used ≤ 1099511627776000000 := by
        have h1 := UX.out
        have h2 : ((namesOf D2.seen).take k).length ≤ 1000000 := by rw [List.length_take, HNL.out]; have := HSL.out; omega
        have h3 : (({ D2 with used := 0 }, 0) : DiskA × Nat).1.used = 0 := rfl
        rw [h3] at h1
        omega
      have UX1 := Lib.hid hux1
      have lbl5 : w2.heap.size < w5.heap.size := by
        obtain ⟨o, ho⟩ := HCL5.out
        exact (Array.getElem?_eq_some_iff.1 ho).1
      have hsame : ∀ j, j < w5.heap.size → own' j = own2 j := SX.out.same
      have hS : ∀ j r, own' j = some r → ¬ (j = w2.heap.size ∨ (bits ≠ [] ∧ (Value.slice pb bits.length cb).ownBlock = some j)) := by
        rintro j r hj (rfl | ⟨hne, hbk⟩)
        · rw [hsame _ lbl5, LB2.out] at hj; cases hj
        · rcases HB.out.out with ⟨_, h1⟩ | ⟨_, _, h1⟩ | ⟨b, off, cap, h1, h2, hc⟩
          · exact hne h1
          · exact hne h1
          · have hjb : j = b := by rw [h1] at hbk; simp [Value.ownBlock] at hbk; exact hbk.symm
            subst hjb
            have hl : 0 < bits.length := by cases bits with
              | nil => exact absurd rfl hne
              | cons x xs => simp
            have hbw : j < w.heap.size := block_lt_of_cell (hc 0 hl)
            have h5 := HS5.out.size
            rw [hsame j (by omega), HS5.out.same j hbw, HBO.out hne j (by rw [h1]; rfl)] at hj
            cases hj
      have hfd : FileIs wr.drew own' n fb (x.1.cont n) := FILE.out.stay (R := fun _ => True) ⟨fun _ _ h => h, fun _ _ _ _ => rfl⟩ trivial trivial trivial trivial trivial
      have hat : (redoOps (drawBit bits) (x.1.cont n).laid x.2 (x.1.cont n).kept).2 ≤ (k + 1) * 1048576000000 := by
        obtain ⟨⟨_, _, _, _, _, _, _, _, _, h6⟩, _⟩ := FILE.out
        have h1 := redoOps_at (bit := drawBit bits) h6 x.2 (x.1.cont n).kept
        have h2 := FX.out.laid n
        omega
      have hsm8 : ∀ c ∈ (redoOps (drawBit bits) (x.1.cont n).laid x.2 (x.1.cont n).kept).1, c < 256 := by
        obtain ⟨⟨_, _, _, _, _, _, h3, _, _, h6⟩, _⟩ := FILE.out
        exact redoOps_small h6 x.2 h3.small
      have hset := settleFile_any (lots_lasts w2.heap.size (.slice pb bits.length cb) bits) own' n fb x.2 (x.1.cont n) wr.drew ((lots_lasts w2.heap.size (.slice pb bits.length cb) bits).stay x.2 wr wr.drew CR.out.lots (fun _ _ => rfl)) hfd (fun j r hj => DX.out.here j r hj) hS (FX.out.laid n) (by
        have h2 := FX.out.laid n
        have h3 := HSL.out
        unfold drawLim; omega)
      have HSET := Lib.hid hset; have HAT := Lib.hid hat; have HSM8 := Lib.hid hsm8; have HSS' := Lib.hid hS; have LBL5 := Lib.hid lbl5
      clear hset hat hfd hS hsame lbl5 hux1 hdr hsm8
      go_wp2
      go_region
      clear hl1 hl2 c4 c8 q6
      go_wp2_with fail
      refine HSET.out.mono ?_
      rintro e w6 ⟨rfl, hl6, own6, hf6, hs6⟩
      obtain ⟨sv6, kv6, lv6, cs6, z1, z2, z3, z4⟩ := hf6.out
      obtain ⟨p6, c6, hkv⟩ : ∃ p c, kv6 = .slice p (redoOps (drawBit bits) (x.1.cont n).laid x.2 (x.1.cont n).kept).1.length c := by
        rcases z3.owns.2 with ⟨h, h0⟩ | ⟨g, c, _, h, _⟩
        · exact ⟨none, 0, by rw [h, h0]⟩
        · exact ⟨_, c, h⟩
      have hlong := FX.out.long n x.2
      have hby6 := z3.bytes (by show (redoOps (drawBit bits) (x.1.cont n).laid x.2 (x.1.cont n).kept).1.length ≤ _; unfold maxLen; omega)
      have hclone := clone_any kv6 _ w6 hby6 (by show (redoOps (drawBit bits) (x.1.cont n).laid x.2 (x.1.cont n).kept).1.length ≤ _; omega)
      subst hkv
      have d1 : w6.cell? ⟨fb, 1, none⟩ = some (.slice p6 (redoOps (drawBit bits) (x.1.cont n).laid x.2 (x.1.cont n).kept).1.length c6) := cells_of z1 1
      have hfbl : fb < w6.heap.size := (Array.getElem?_eq_some_iff.1 z1).1
      have HCLONE := Lib.hid hclone; have L6 := Lib.hid hl6; have F6 := Lib.hid hf6; have S6 := Lib.hid hs6; have Z1 := Lib.hid z1; have HLONG := Lib.hid hlong
      clear hclone hl6 hf6 hs6 z1 z2 z3 z4 hby6 hlong
      go_wp2_with fail
      refine HCLONE.out.mono ?_
      rintro e w7 ⟨v7, rfl, ho7, hk7, hb7⟩
      obtain ⟨p7, c7, hv7⟩ : ∃ p c, v7 = .slice p (redoOps (drawBit bits) (x.1.cont n).laid x.2 (x.1.cont n).kept).1.length c := by
        rcases ho7.2 with ⟨h, h0⟩ | ⟨g, c, _, h, _⟩
        · exact ⟨none, 0, by rw [h, h0]⟩
        · exact ⟨_, c, h⟩
      have dw : DiskIs wr.drew own' a x.1 := DX.out.same rfl
      have here6 : ∀ j r, own6 j = some r → j < w6.heap.size := fun j r hj => by
        rcases S6.out.new j r hj with h' | ⟨_, h', _⟩
        · exact Nat.lt_of_lt_of_le (dw.here j r h') S6.out.turned.size
        · exact h'
      obtain ⟨own8, f8, s8⟩ := F6.out.reseen here6 hb7 ho7 hk7 HSM8.out
      have z7 : w7.heap[fb]? = some (.cells #[sv6, .slice p6 (redoOps (drawBit bits) (x.1.cont n).laid x.2 (x.1.cont n).kept).1.length c6, lv6] 75 (0, 0)) := (hb7.block fb hfbl).trans Z1.out
      have t7 := set_heap z7 0 v7
      have e0 : w7.cell? ⟨fb, 0, none⟩ = some sv6 := cells_of z7 0
      have e1 := free_of z7 0
      obtain ⟨d8, sl8⟩ := crash_file_done (bits := bits) dw rfl GS.out FB.out (fun j r hj e => HSS'.out j r hj (.inl e.symm)) F6.out S6.out f8 s8
      have lot8 : LotsIs w2.heap.size (.slice pb bits.length cb) bits (redoOps (drawBit bits) (x.1.cont n).laid x.2 (x.1.cont n).kept).2 (w7.setCell ⟨fb, 0, none⟩ v7) := by
        refine (lots_lasts w2.heap.size (.slice pb bits.length cb) bits).stay _ w6 _ L6.out (fun j hj => ?_)
        have hj6 := (lots_lasts w2.heap.size (.slice pb bits.length cb) bits).here _ w6 j L6.out hj
        refine (t7.2 j ?_).trans (hb7.block j hj6)
        rintro rfl
        exact HSS'.out _ _ FILE.out.role hj
      have sx8 : StepsL w2.heap.size own2 own8 w5 (w7.setCell ⟨fb, 0, none⟩ v7) := (SX.out.trans (show StepsL w2.heap.size own' own' wr wr.drew from ⟨rfl, rfl, rfl, Nat.le_refl _, fun _ _ _ _ => rfl, fun _ _ => rfl⟩)).trans sl8
      subst hv7
      obtain ⟨W8, hW8⟩ : ∃ W8, W8 = w7.setCell ⟨fb, 0, none⟩ (.slice p7 (redoOps (drawBit bits) (x.1.cont n).laid x.2 (x.1.cont n).kept).1.length c7) := ⟨_, rfl⟩
      rw [← hW8] at d8 lot8 sx8 t7
      have ceq := crashFile_eq (bits := bits) GS.out
      have su := d8.setUsed (x.1.used + ((redoOps (drawBit bits) (x.1.cont n).laid x.2 (x.1.cont n).kept).1.length : Int))
      obtain ⟨ms8, mk8, mf8, lv8, r1, _⟩ := d8.out
      have g1 : W8.cell? ⟨a, 1, none⟩ = some (.int .i64 x.1.used) := cells_of r1 1
      have g2 := free_of r1 1
      have g3 : W8.cell? ⟨fb, 0, none⟩ = some (.slice p7 (redoOps (drawBit bits) (x.1.cont n).laid x.2 (x.1.cont n).kept).1.length c7) := cells_of t7.1 0
      have hla : w2.heap.size ≠ a := by
        rintro rfl
        exact HSS'.out _ _ DX.out.role (.inl rfl)
      have lot9 : LotsIs w2.heap.size (.slice pb bits.length cb) bits (redoOps (drawBit bits) (x.1.cont n).laid x.2 (x.1.cont n).kept).2 (W8.setCell ⟨a, 1, none⟩ (.int .i64 (x.1.used + ((redoOps (drawBit bits) (x.1.cont n).laid x.2 (x.1.cont n).kept).1.length : Int)))) := by
        refine (lots_lasts w2.heap.size (.slice pb bits.length cb) bits).stay _ W8 _ lot8 (fun j hj => (set_heap r1 1 _).2 j ?_)
        rintro rfl
        exact HSS'.out _ _ DX.out.role hj
      have fin : Crashing w5 (W8.setCell ⟨a, 1, none⟩ (.int .i64 (x.1.used + ((redoOps (drawBit bits) (x.1.cont n).laid x.2 (x.1.cont n).kept).1.length : Int)))) own2 a w2.heap.size (.slice pb bits.length cb) bits (crashFile bits x s) := by
        rw [ceq]
        exact ⟨⟨own8, su.1, sx8.trans (StepsL.of_steps su.2)⟩, lot9, ⟨CR.out.ok.seenIn, CR.out.ok.keptIn, CR.out.ok.laidIn, CR.out.ok.made⟩⟩
      have FIN := Lib.hid fin
      have hdr2 : (crashFile bits x s).2 ≤ (k + 1) * 1048576000000 := by rw [ceq]; exact HAT.out
      have HDR2 := Lib.hid hdr2
      have hll := HLONG.out
      have hu := UX1.out
      obtain ⟨L, hL⟩ : ∃ L, (redoOps (drawBit bits) (x.1.cont n).laid x.2 (x.1.cont n).kept).1.length = L := ⟨_, rfl⟩
      rw [hL] at hll g3
      have HLL := Lib.hid hL
      have hsum : IntKind.i64.wrap (x.1.used + (L : Int)) = x.1.used + (L : Int) := IntWalk.i64_in _ (by omega)
      have HWW := Lib.hid hW8
      rw [hL] at FIN hW8
      clear su r1 d8 lot8 sx8 t7 ceq fin hdr2 lot9 sl8 f8 s8 z7 ho7 hk7 hb7 dw here6 hla hll hu d1
      go_wp2
      rw [← hW8]
      clear hW8
      go_region
      clear hsum
      have hkm : (k : Int) < 1000000 := by have := HSL.out; omega
      go_wp2
      go_roundw
      case rel => exact ⟨k + 1, by omega, by go_num, by rw [NX.out]; exact FIN.out.drew, by rw [NX.out]; exact HDR2.out⟩
      case measure => simp [intOf]; omega
    · obtain rfl : k = D2.seen.length := by omega
      have htake : (namesOf D2.seen).take D2.seen.length = namesOf D2.seen := List.take_of_length_le (by rw [HNL.out]; omega)
      rw [htake] at hcr
      obtain ⟨own', hd', hs'⟩ := hcr.out
      have hfin : ∃ own' fm', Steps own own' w wr ∧ DiskIs wr own' a (crashed bits D fm') ∧ (crashed bits D fm').Ok ∧ Kept D.fm (redoNames (D.laid.take (firstOf bits D.laid.length)) D.kept) fm' := by
        refine ⟨own', fm', hs'.lead HS5.out HW2.out, ?_, ?_, HK2.out⟩
        · unfold crashed; rw [← HD2.out]; exact hd'
        · unfold crashed; rw [← HD2.out]; exact hcr.ok
      have HFIN := Lib.hid hfin
      clear hcr hd' hs' hfin htake hdr
      go_wp2
      go_returns
      exact ⟨rfl, HFIN.out⟩
end Go.Proofs.YtldkeelgnfegeaaGreat

/- What is left of bytes behind a crash: where nothing was laid again, the byte is the one that lasted; never fewer. Lists only. -/
namespace Go.Proofs.YtldkeelgnfegeaaGreat
open Go Go.By

theorem atB_getD (l : List Nat) (i : Nat) : atB l i = (l[i]?).getD 0 := by
  unfold atB; rw [List.getD_eq_getElem?_getD]
theorem atB_fit {l : List Nat} {n : Nat} (h : l.length ≤ n) (i : Nat) : atB (fitL l n) i = atB l i := by
  rw [fitL_more h, atB_getD, atB_getD, List.getElem?_append]
  split
  · rfl
  · rename_i hi
    rw [List.getElem?_replicate, List.getElem?_eq_none (by omega)]
    split <;> rfl
theorem atB_over {l p : List Nat} {off : Nat} (h : off + p.length ≤ l.length) (i : Nat) : atB (overL l off p) i = if off ≤ i ∧ i < off + p.length then atB p (i - off) else atB l i := by
  unfold overL
  rw [atB_getD, atB_getD, atB_getD, List.getElem?_append]
  have ht : (l.take off).length = off := by simp; omega
  rw [ht]
  by_cases h1 : i < off
  · rw [if_pos h1, if_neg (by omega), List.getElem?_take, if_pos h1]
  · rw [if_neg h1, List.getElem?_append]
    by_cases h2 : i - off < p.length
    · rw [if_pos h2, if_pos (by omega)]
    · rw [if_neg h2, if_neg (by omega), List.getElem?_drop]
      congr 2; omega
theorem atB_put {l p : List Nat} {off : Nat} (i : Nat) : atB (putL l off p) i = if off ≤ i ∧ i < off + p.length then atB p (i - off) else atB l i := by
  unfold putL
  by_cases h : l.length < off + p.length
  · rw [if_pos h, atB_over (by rw [fitL_length]; exact Nat.le_refl _), atB_fit (by omega)]
  · rw [if_neg h, atB_over (by omega)]

theorem piece_length {off : Nat} {b : List Nat} {at_ : Nat} (h : at_ < b.length) : ((b.drop at_).take (pieceLen off b.length at_)).length = pieceLen off b.length at_ := by
  rw [List.length_take, List.length_drop]
  have := pieceLen_le off b.length at_
  omega

/-- Whatever survives of a write: outside of it the bytes are as they were, and no fewer. -/
theorem redoWrite_out {off : Nat} {b : List Nat} {bit : Nat → Bool} : ∀ (fuel at_ i : Nat) (l : List Nat),
    (∀ k, (k < off ∨ off + b.length ≤ k) → atB (redoWrite off b bit fuel at_ i l).1 k = atB l k) ∧ l.length ≤ (redoWrite off b bit fuel at_ i l).1.length ∧ (redoWrite off b bit fuel at_ i l).1.length ≤ max l.length (off + b.length)
  | 0, at_, i, l => ⟨fun _ _ => rfl, Nat.le_refl _, Nat.le_max_left _ _⟩
  | fuel + 1, at_, i, l => by
    unfold redoWrite
    by_cases h : at_ < b.length
    · rw [if_pos h]
      have hp := piece_length (off := off) h
      have hle := pieceLen_le off b.length at_
      obtain ⟨h1, h2, h3⟩ := redoWrite_out (off := off) (b := b) (bit := bit) fuel (at_ + pieceLen off b.length at_) (i + 1) (if bit i then putL l (off + at_) ((b.drop at_).take (pieceLen off b.length at_)) else l)
      by_cases hb : bit i = true
      · simp only [hb, if_true] at h1 h2 h3 ⊢
        rw [putL_length, hp] at h2 h3
        refine ⟨fun k hk => ?_, by omega, by omega⟩
        rw [h1 k hk, atB_put, hp, if_neg (by omega)]
      · simp only [hb] at h1 h2 h3 ⊢
        exact ⟨h1, h2, h3⟩
    · rw [if_neg h]
      exact ⟨fun _ _ => rfl, Nat.le_refl _, Nat.le_max_left _ _⟩

/-- A write of which all survives. -/
theorem redoWrite_all {off : Nat} {b : List Nat} : ∀ (fuel at_ i : Nat) (l : List Nat), b.length ≤ at_ + fuel → at_ < b.length →
    (∀ k, atB (redoWrite off b allBits fuel at_ i l).1 k = if off + at_ ≤ k ∧ k < off + b.length then atB b (k - off) else atB l k) ∧ (redoWrite off b allBits fuel at_ i l).1.length = max l.length (off + b.length)
  | 0, at_, i, l, hf, ha => by omega
  | fuel + 1, at_, i, l, hf, ha => by
    unfold redoWrite
    rw [if_pos ha]
    have hp := piece_length (off := off) ha
    have hle := pieceLen_le off b.length at_
    have hpos := pieceLen_pos (off := off) ha
    have hb : allBits i = true := rfl
    simp only [hb, if_true]
    have hput : ∀ k, atB (putL l (off + at_) ((b.drop at_).take (pieceLen off b.length at_))) k = if off + at_ ≤ k ∧ k < off + at_ + pieceLen off b.length at_ then atB b (k - off) else atB l k := fun k => by
      rw [atB_put, hp]
      split
      · rename_i hk
        rw [atB_take (by omega), atB_getD, atB_getD, List.getElem?_drop]
        congr 2; omega
      · rfl
    by_cases hn : at_ + pieceLen off b.length at_ < b.length
    · obtain ⟨h1, h2⟩ := redoWrite_all (off := off) (b := b) fuel (at_ + pieceLen off b.length at_) (i + 1) (putL l (off + at_) ((b.drop at_).take (pieceLen off b.length at_))) (by omega) hn
      refine ⟨fun k => ?_, by rw [h2, putL_length, hp]; omega⟩
      rw [h1 k, hput k]
      by_cases hk : off + (at_ + pieceLen off b.length at_) ≤ k ∧ k < off + b.length
      · rw [if_pos hk, if_pos (by omega)]
      · rw [if_neg hk]
        by_cases hk2 : off + at_ ≤ k ∧ k < off + at_ + pieceLen off b.length at_
        · rw [if_pos hk2, if_pos (by omega)]
        · rw [if_neg hk2, if_neg (by omega)]
    · have he : at_ + pieceLen off b.length at_ = b.length := by omega
      have hstop : redoWrite off b allBits fuel (at_ + pieceLen off b.length at_) (i + 1) (putL l (off + at_) ((b.drop at_).take (pieceLen off b.length at_))) = (putL l (off + at_) ((b.drop at_).take (pieceLen off b.length at_)), i + 1) := by
        cases fuel with
        | zero => rfl
        | succ f => unfold redoWrite; rw [if_neg hn]
      rw [hstop]
      refine ⟨fun k => ?_, by show (putL _ _ _).length = _; rw [putL_length, hp]; omega⟩
      show atB (putL _ _ _) k = _
      rw [hput k]
      by_cases hk2 : off + at_ ≤ k ∧ k < off + b.length
      · rw [if_pos (by omega), if_pos hk2]
      · rw [if_neg (by omega), if_neg hk2]

/-- The writes: places and bytes. -/
def writeOps (l : List (Nat × List Nat)) : List ByteOp := l.map fun p => .write p.1 p.2
/-- A place that some write covers. -/
def coveredBy (l : List (Nat × List Nat)) (k : Nat) : Prop := ∃ p ∈ l, p.1 ≤ k ∧ k < p.1 + p.2.length
theorem redoOps_out {bit : Nat → Bool} {m : Nat} : ∀ (ws : List (Nat × List Nat)) (i : Nat) (l : List Nat), (∀ p ∈ ws, p.1 + p.2.length ≤ m) →
    (∀ k, ¬ coveredBy ws k → atB (redoOps bit (writeOps ws) i l).1 k = atB l k) ∧ l.length ≤ (redoOps bit (writeOps ws) i l).1.length ∧ (redoOps bit (writeOps ws) i l).1.length ≤ max l.length m
  | [], i, l, _ => ⟨fun _ _ => rfl, Nat.le_refl _, Nat.le_max_left _ _⟩
  | p :: ws, i, l, hm => by
    have hw : redoOps bit (writeOps (p :: ws)) i l = redoOps bit (writeOps ws) (redoWrite p.1 p.2 bit p.2.length 0 i l).2 (redoWrite p.1 p.2 bit p.2.length 0 i l).1 := rfl
    rw [hw]
    obtain ⟨a1, a2, a3⟩ := redoWrite_out (off := p.1) (b := p.2) (bit := bit) p.2.length 0 i l
    obtain ⟨b1, b2, b3⟩ := redoOps_out (bit := bit) ws (redoWrite p.1 p.2 bit p.2.length 0 i l).2 (redoWrite p.1 p.2 bit p.2.length 0 i l).1 (fun q hq => hm q (List.mem_cons_of_mem _ hq))
    have hp := hm p (List.mem_cons_self ..)
    refine ⟨fun k hk => ?_, by omega, by omega⟩
    rw [b1 k (fun ⟨q, hq, h⟩ => hk ⟨q, List.mem_cons_of_mem _ hq, h⟩), a1 k]
    by_cases h1 : k < p.1
    · exact .inl h1
    · by_cases h2 : p.1 + p.2.length ≤ k
      · exact .inr h2
      · exact absurd ⟨p, List.mem_cons_self .., by omega, by omega⟩ hk

theorem redoOps_append (bit : Nat → Bool) : ∀ (a b : List ByteOp) (i : Nat) (l : List Nat), redoOps bit (a ++ b) i l = redoOps bit b (redoOps bit a i l).2 (redoOps bit a i l).1
  | [], _, _, _ => rfl
  | o :: a, b, i, l => redoOps_append bit a b _ _
end Go.Proofs.YtldkeelgnfegeaaGreat

/- Arguments that are rows of rows of bytes, opened. -/
namespace Go.By
open Go Go.RowKit Go.ChangeShapes Go.WideShapes Go.ChangeAt Go.Deep

theorem bytes_of_trod {H : Type} {enc : TypeId × Value → H} {P : Program} {W : World} {base : Nat} {t e : TypeId} (T : ByT P t e) (hc : P.cellsOf e = 1) {fuel : Nat} {v : Value} {x : DataW H × List MemPlace}
    (hf : DataW.trod enc P W base (fun _ => true) true fuel t [v] = some x) : ∃ l : List Nat, Bytes W v l := by
  rcases open_ints T.slice T.elem hc hf with ⟨hcs, hx⟩ | ⟨a, len, cap, zs, hcs, _, hl, hm, hz, hx, hcell, hwz⟩
  · simp only [List.cons.injEq, and_true] at hcs
    subst hcs
    exact ⟨[], Bytes.nil W⟩
  · simp only [List.cons.injEq, and_true] at hcs
    subst hcs
    simp only [if_true] at hz
    have hlen : ((zs.take len).map Int.toNat).length = len := by simp; omega
    refine ⟨(zs.take len).map Int.toNat, ⟨?_, ?_, ?_⟩⟩
    · by_cases h0 : zs.length = 0
      · have h1 : cap = 0 := by omega
        have h2 : len = 0 := by omega
        subst h1 h2
        exact .inr (.inl ⟨a, rfl, by simp⟩)
      · obtain ⟨ab, ao, spot⟩ := a
        have hspot : spot = none := by simpa [Addr.add] using World.cell?_spot (hcell 0 (by omega))
        subst hspot
        refine .inr <| .inr ⟨ab, ao, cap, by rw [hlen], by rw [hlen]; exact hl, fun i hi => ?_⟩
        rw [hlen] at hi
        have hci := hcell i (by omega)
        rw [Addr.add_lit] at hci
        rw [hci]
        have hm := hwz (zs.getD i 0) (by rw [List.getD_eq_getElem?_getD, List.getElem?_eq_getElem (by omega)]; exact List.getElem_mem _)
        obtain ⟨n, hn, _⟩ := u8_of_wf hm
        rw [atB_of (by rw [hlen]; exact hi)]
        rw [List.getElem_map, List.getElem_take]
        have e : zs.getD i 0 = zs[i]'(by omega) := by rw [List.getD_eq_getElem?_getD, List.getElem?_eq_getElem (by omega)]; rfl
        rw [e] at hn ⊢
        rw [hn]; rfl
    · intro c hc
      obtain ⟨z, hz', rfl⟩ := List.mem_map.1 hc
      obtain ⟨n, hn, hlt⟩ := u8_of_wf (hwz z (List.mem_of_mem_take hz'))
      omega
    · rw [hlen]; omega

/-- The rows of an argument. -/
structure BodyRow (w : World) (p : Option Addr) (n cap : Nat) (T : Nat → Value × List Nat) : Prop where
  le : n ≤ cap
  most : cap ≤ maxLen
  at_ : ∀ i, i < n → ∃ lb lo, p = some ⟨lb, lo, none⟩ ∧ w.cell? ⟨lb, lo + i, none⟩ = some (T i).1
  wf : ∀ i, i < n → Bytes w (T i).1 (T i).2
theorem BodyRow.below {w w' : World} {p : Option Addr} {n cap : Nat} {T : Nat → Value × List Nat} (h : BodyRow w p n cap T) (hb : Below w.heap.size w w') : BodyRow w' p n cap T := by
  refine ⟨h.le, h.most, fun i hi => ?_, fun i hi => (h.wf i hi).below hb⟩
  obtain ⟨lb, lo, h1, c0⟩ := h.at_ i hi
  exact ⟨lb, lo, h1, (hb.cell (p := ⟨lb, _, none⟩) (block_lt_of_cell c0)).trans c0⟩

theorem open_rows {H : Type} {enc : TypeId × Value → H} {P : Program} {W : World} {base b0 : Nat} {t e te : TypeId} (ht : P.underlying t = some (.slice e)) (ce : P.cellsOf e = 1) (T : ByT P e te) (cte : P.cellsOf te = 1) {v : Value} {d : DataW H} {ps : List MemPlace}
    (hval : Value.okWide P W .any b0 t v) (h : DataW.Trod enc P W base (fun _ => true) true t v d ps) :
    ∃ (p : Option Addr) (n cap : Nat) (T : Nat → Value × List Nat), v = .slice p n cap ∧ BodyRow W p n cap T := by
  obtain ⟨p, len, cap, rfl⟩ := okWide_slice ht hval
  obtain ⟨fuel, hf⟩ := h
  have hcs0 : (Value.slice p len cap).cells.toList = [.slice p len cap] := by simp [Value.cells]
  rw [hcs0] at hf
  rcases open_slice1 ht ce hf with ⟨h0, _⟩ | ⟨a, len', cap', m, n, V, D, Pl, h1, _, hl, hm, hmm, _, hx⟩
  · simp only [List.cons.injEq, Value.slice.injEq, and_true] at h0
    obtain ⟨rfl, rfl, rfl⟩ := h0
    exact ⟨none, 0, 0, fun _ => (.slice none 0 0, []), rfl, Nat.le_refl _, Nat.zero_le _, fun i hi => by omega, fun i hi => by omega⟩
  · simp only [List.cons.injEq, Value.slice.injEq, and_true] at h1
    obtain ⟨rfl, rfl, rfl⟩ := h1
    simp only [if_true] at hmm
    have each : ∀ i, i < len → ∃ l : List Nat, Bytes W (V i) l := fun i hi => bytes_of_trod T cte (hx i (by omega)).2
    refine ⟨some a, len, cap, fun i => (V i, if h : i < len then (each i h).choose else []), rfl, hl, hm, fun i hi => ?_, fun i hi => ?_⟩
    · obtain ⟨ab, ao, spot⟩ := a
      have h00 := (hx 0 (by omega)).1
      have hspot : spot = none := by
        have hs := World.cell?_spot h00
        simpa [Addr.add] using hs
      subst hspot
      refine ⟨ab, ao, rfl, ?_⟩
      have hh := (hx i (by omega)).1
      simp only [Addr.add_lit] at hh
      exact hh
    · simp only [dif_pos hi]
      exact (each i hi).choose_spec
theorem BodyRow.body {w : World} {lb lo n cap i : Nat} {T : Nat → Value × List Nat} (h : BodyRow w (some ⟨lb, lo, none⟩) n cap T) (hi : i < n) :
    ∃ q c, w.cell? ⟨lb, lo + i, none⟩ = some (.slice q (T i).2.length c) ∧ Bytes w (.slice q (T i).2.length c) (T i).2 := by
  obtain ⟨lb', lo', h1, h2⟩ := h.at_ i hi
  simp only [Option.some.injEq, Addr.mk.injEq, true_and, and_true] at h1
  obtain ⟨rfl, rfl⟩ := h1
  have hw := h.wf i hi
  obtain ⟨q, c, hv, _⟩ := hw.any
  rw [hv] at h2 hw
  exact ⟨q, c, h2, hw⟩
end Go.By

/- The disk as a file sees it: what each operation makes of it, as functions; the numbers of its tables are left out. -/
namespace Go.Proofs.YtldkeelgnfegeaaGreat
open Go Go.RowKit Go.By

structure Sk where
  room : Int
  used : Int
  ops : Nat
  left : Nat
  made : Nat
  seen : List (ByteArray × Nat)
  kept : List (ByteArray × Nat)
  laid : List NameOp
  cont : Nat → FileA
def DiskA.sk (D : DiskA) : Sk := ⟨D.room, D.used, D.ops, D.left, D.made, D.seen, D.kept, D.laid, D.cont⟩
def Sk.tick (S : Sk) : Sk := { S with ops := S.ops + 1, left := S.left - 1 }
def Sk.err (S : Sk) (may : Bool) : Int := if S.left = 1 then 5 else if may then 0 else 1
theorem sk_begin (D : DiskA) (m : Bool) : (D.begin m).1.sk = D.sk.tick ∧ (D.begin m).2 = D.sk.err m := by
  unfold DiskA.begin Sk.err
  by_cases h : D.left = 1
  · rw [if_pos h, if_pos (show D.sk.left = 1 from h)]
    refine ⟨?_, rfl⟩
    show (⟨D.room, D.used, D.ops + 1, 0, D.made, D.seen, D.kept, D.laid, D.cont⟩ : Sk) = ⟨D.room, D.used, D.ops + 1, D.left - 1, D.made, D.seen, D.kept, D.laid, D.cont⟩
    rw [h]
  · rw [if_neg h, if_neg (show ¬ D.sk.left = 1 from h)]
    exact ⟨rfl, rfl⟩
def Sk.hasRoom (S : Sk) (n : Nat) (size : Int) : Bool := decide (size - ((S.cont n).seen.length : Int) ≤ 0) || decide (size - ((S.cont n).seen.length : Int) ≤ S.room - S.used)
def Sk.withFile (S : Sk) (n : Nat) (F : FileA) : Sk := { S with cont := fun k => if k = n then F else S.cont k }
def Sk.alterFile (S : Sk) (n : Nat) (o : ByteOp) : Sk := { S.withFile n ((S.cont n).alter o) with used := S.used + (S.cont n).more o }
/-- An operation on a file that has to be there. -/
def Sk.onFile (S : Sk) (s : ByteArray) (may : Bool) (f : Sk → Nat → Sk × Int) : Sk × Int :=
  if S.err (may && mayName s) ≠ 0 then (S.tick, S.err (may && mayName s)) else
    match Mp.get S.seen s with
    | none => (S.tick, 3)
    | some n => f S.tick n
def Sk.writeAt (off : Int) (b : List Nat) (T : Sk) (n : Nat) : Sk × Int :=
  if b = [] then (T, 0) else if T.hasRoom n (off + b.length) then (T.alterFile n (.write off.toNat b), 0) else (T, 4)
def Sk.cutAt (size : Int) (T : Sk) (n : Nat) : Sk × Int := if T.hasRoom n size then (T.alterFile n (.cut size.toNat), 0) else (T, 4)
def Sk.write (S : Sk) (s : ByteArray) (off : Int) (b : List Nat) : Sk × Int := S.onFile s (mayNumber off) (Sk.writeAt off b)
def Sk.truncate (S : Sk) (s : ByteArray) (size : Int) : Sk × Int := S.onFile s (mayNumber size) (Sk.cutAt size)
def Sk.sync (S : Sk) (s : ByteArray) : Sk × Int := S.onFile s true fun T n => (T.withFile n (T.cont n).settle, 0)
def Sk.create (S : Sk) (s : ByteArray) : Sk × Int :=
  if S.err (mayName s) ≠ 0 then (S.tick, S.err (mayName s)) else if (Mp.get S.seen s).isSome then (S.tick, 8) else
    ({ S.tick.withFile (S.made + 1) ⟨[], [], []⟩ with made := S.made + 1, seen := Mp.put S.seen s (S.made + 1), laid := S.laid ++ [.create s (S.made + 1)] }, 0)
def Sk.size (S : Sk) (s : ByteArray) : Option Nat := (Mp.get S.seen s).map fun n => (S.cont n).seen.length
def Sk.read (S : Sk) (s : ByteArray) (off n : Int) : List Nat × Int :=
  if S.err ((mayNumber off && mayNumber n) && mayName s) ≠ 0 then ([], S.err ((mayNumber off && mayNumber n) && mayName s)) else
    match Mp.get S.seen s with
    | none => ([], 3)
    | some k => if ((S.cont k).seen.length : Int) < off + n then ([], 2) else (((S.cont k).seen.drop off.toNat).take n.toNat, 0)

/-- Nothing is too great. -/
structure Sk.Fine (S : Sk) : Prop where
  ops : S.ops < 4611686018427387904
  left : S.left < 4611686018427387904
  made : S.made < 1000000
  laid : S.laid.length < 1000000
  few : ∀ n, (S.cont n).laid.length < 1000000
  short : ∀ n, (S.cont n).seen.length ≤ 1099511627776
  room : 0 ≤ S.room ∧ S.room ≤ 9223372036854775807
  used : 0 ≤ S.used ∧ S.used ≤ 4611686018427387904

/-- The disk S lies at a, behind all that was there in W. -/
structure Dsk (W : World) (a : Nat) (S : Sk) (own : Own) (w : World) : Prop where
  out : ∃ D, DiskIs w own a D ∧ D.Ok ∧ D.sk = S
  far : ∀ k r, own k = some r → W.heap.size ≤ k
  below : Below W.heap.size W w
theorem Dsk.here {W w : World} {a : Nat} {S : Sk} {own : Own} (h : Dsk W a S own w) : ∀ k r, own k = some r → k < w.heap.size := let ⟨_, hd, _⟩ := h.out; hd.here
theorem Dsk.role {W w : World} {a : Nat} {S : Sk} {own : Own} (h : Dsk W a S own w) : own a = some .disk := let ⟨_, hd, _⟩ := h.out; hd.role
theorem Dsk.new_none {W w : World} {a : Nat} {S : Sk} {own : Own} (h : Dsk W a S own w) {k : Nat} (hk : w.heap.size ≤ k) : own k = none := by
  cases e : own k with
  | none => rfl
  | some r => have := h.here k r e; omega
theorem Dsk.of_steps {W w w' : World} {a : Nat} {S S' : Sk} {own own' : Own} (h : Dsk W a S own w) (hs : Steps own own' w w') (ho : ∃ D, DiskIs w' own' a D ∧ D.Ok ∧ D.sk = S') : Dsk W a S' own' w' := by
  refine ⟨ho, fun k r hk => ?_, h.below.trans (hs.below h.below.size h.far)⟩
  by_cases hl : k < w.heap.size
  · rw [hs.same k hl] at hk; exact h.far k r hk
  · have := h.below.size; omega
theorem Dsk.stay {W w w' : World} {a : Nat} {S : Sk} {own : Own} (h : Dsk W a S own w) (hb : Below w.heap.size w w') : Dsk W a S own w' := by
  refine h.of_steps (Steps.of_below hb) ?_
  obtain ⟨D, hd, hok, e⟩ := h.out
  exact ⟨D, hd.beside (o1 := fun _ => none) (o2 := fun _ => none) (Steps.of_below hb) (fun _ _ _ => .inl rfl), hok, e⟩
/-- What is turned is not the disk's. -/
theorem Dsk.set {W w : World} {a : Nat} {S : Sk} {own : Own} (h : Dsk W a S own w) {g : Nat} (hn : own g = none) (hf : W.heap.size ≤ g) (j : Nat) (v : Value) : Dsk W a S own (w.setCell ⟨g, j, none⟩ v) := by
  have hst : Steps (fun k => if k = g then some .disk else none) (fun k => if k = g then some .disk else none) w (w.setCell ⟨g, j, none⟩ v) :=
    ⟨rfl, rfl, rfl, by simp [World.setCell], fun k _ ho => by
      have hne : k ≠ g := by
        intro e; subst e
        rw [if_pos rfl] at ho
        rcases ho with h | h <;> cases h
      exact Below.heap_setCell _ _ _ _ hne, fun _ _ => rfl⟩
  obtain ⟨D, hd, hok, e⟩ := h.out
  exact ⟨⟨D, hd.beside hst (fun k r hr => .inl (if_neg (by intro e; subst e; rw [hn] at hr; cases hr))), hok, e⟩, h.far, h.below.setCell hf v⟩

theorem Dsk.new {w w' : World} {R : Int} (hd : DiskIs w' (fun k => if k = w.heap.size then some .disk else none) w.heap.size (DiskA.new R)) (hb : Below w.heap.size w w') :
    Dsk w w.heap.size (DiskA.new R).sk (fun k => if k = w.heap.size then some .disk else none) w' :=
  ⟨⟨_, hd, DiskA.new_ok R, rfl⟩, fun k r hk => (by
    have hk' : (if k = w.heap.size then some Role.disk else none) = some r := hk
    split at hk'
    · omega
    · cases hk'), hb⟩

theorem filed_sk {W w w' : World} {a : Nat} {D : DiskA} {own : Own} {s : ByteArray} {m : Bool} {e : Ending} {f : Sk → Nat → Sk × Int} {post : Nat → Int → DiskA → Prop} (h : Dsk W a D.sk own w) (hok : D.Ok)
    (hp : ∀ n x D2, Mp.get (D.begin (m && mayName s)).1.seen s = some n → post n x D2 → D2.Ok ∧ (D2.sk, x) = f D.sk.tick n)
    (hc : Filed own a (D.begin (m && mayName s)).1 (D.begin (m && mayName s)).2 s post w e w') :
    e = .returned (.int .i64 (D.sk.onFile s m f).2) ∧ ∃ own', Steps own own' w w' ∧ Dsk W a (D.sk.onFile s m f).1 own' w' := by
  obtain ⟨own', hs, hc⟩ := hc
  obtain ⟨e1, e2⟩ := sk_begin D (m && mayName s)
  have e3 : (D.begin (m && mayName s)).1.seen = D.sk.seen := congrArg Sk.seen e1
  have hok1 := DiskA.begin_ok hok (m && mayName s)
  unfold Sk.onFile
  rcases hc with ⟨h1, rfl, hd⟩ | ⟨h1, h2, rfl, hd⟩ | ⟨h1, n, x, D2, h2, h3, rfl, hd⟩
  · rw [e2] at h1 ⊢
    rw [if_pos h1]
    exact ⟨rfl, own', hs, h.of_steps hs ⟨_, hd, hok1, e1⟩⟩
  · rw [e2] at h1
    rw [e3] at h2
    rw [if_neg (by rw [h1]; decide), h2]
    exact ⟨rfl, own', hs, h.of_steps hs ⟨_, hd, hok1, e1⟩⟩
  · obtain ⟨h4, h5⟩ := hp n x D2 h2 h3
    rw [e2] at h1
    rw [e3] at h2
    rw [if_neg (by rw [h1]; decide), h2]
    dsimp only
    rw [← h5]
    exact ⟨rfl, own', hs, h.of_steps hs ⟨_, hd, h4, rfl⟩⟩

theorem Dsk.write {W w : World} {a : Nat} {S : Sk} {own : Own} (h : Dsk W a S own w) (hF : S.Fine) (s : ByteArray) (hs : s.size ≤ maxLen) (off : Int) {bv : Value} {b : List Nat} (hb : Bytes w bv b) (hbk : b ≠ [] → ∀ k, bv.ownBlock = some k → own k = none ∨ own k = some .ink) (hbl : b.length ≤ 1048576) :
    Calls Tryz.prog 55 #[.pointer (some ⟨a, 0, none⟩), .string s, .int .i64 off, bv] w fun e w' => e = .returned (.int .i64 (S.write s off b).2) ∧ ∃ own', Steps own own' w w' ∧ Dsk W a (S.write s off b).1 own' w' := by
  have h0 := h
  obtain ⟨D, hd, hok, rfl⟩ := h.out
  refine (write_any own a D s off bv b w hd hok hF.ops hF.left hs hF.few hF.room hF.used hF.short hb hbk hbl).mono fun e w' hc => filed_sk h0 hok (fun n x D2 _ hp => ?_) hc
  obtain ⟨e1, _⟩ := sk_begin D (mayNumber off && mayName s)
  have hok1 := DiskA.begin_ok hok (mayNumber off && mayName s)
  generalize (D.begin (mayNumber off && mayName s)).1 = D1 at *
  rw [← e1]
  unfold Sk.writeAt
  rcases hp with ⟨rfl, rfl, rfl⟩ | ⟨h1, h2, rfl, rfl⟩ | ⟨h1, h2, rfl, rfl⟩
  · exact ⟨hok1, by rw [if_pos rfl]⟩
  · exact ⟨hok1, by rw [if_neg h1, if_neg (by rw [show D2.sk.hasRoom n (off + b.length) = D2.hasRoom n (off + b.length) from rfl, h2]; decide)]⟩
  · exact ⟨DiskA.used_ok (DiskA.withFile_ok hok1 _ _) _, by rw [if_neg h1, if_pos (show D1.sk.hasRoom n (off + b.length) = true from h2)]; rfl⟩

theorem Dsk.truncate {W w : World} {a : Nat} {S : Sk} {own : Own} (h : Dsk W a S own w) (hF : S.Fine) (s : ByteArray) (hs : s.size ≤ maxLen) (size : Int) :
    Calls Tryz.prog 22 #[.pointer (some ⟨a, 0, none⟩), .string s, .int .i64 size] w fun e w' => e = .returned (.int .i64 (S.truncate s size).2) ∧ ∃ own', Steps own own' w w' ∧ Dsk W a (S.truncate s size).1 own' w' := by
  have h0 := h
  obtain ⟨D, hd, hok, rfl⟩ := h.out
  refine (truncate_any own a D s size w hd hok hF.ops hF.left hs hF.few hF.room hF.used hF.short).mono fun e w' hc => filed_sk h0 hok (fun n x D2 _ hp => ?_) hc
  obtain ⟨e1, _⟩ := sk_begin D (mayNumber size && mayName s)
  have hok1 := DiskA.begin_ok hok (mayNumber size && mayName s)
  generalize (D.begin (mayNumber size && mayName s)).1 = D1 at *
  rw [← e1]
  unfold Sk.cutAt
  rcases hp with ⟨h2, rfl, rfl⟩ | ⟨h2, rfl, rfl⟩
  · exact ⟨hok1, by rw [if_neg (by rw [show D2.sk.hasRoom n size = D2.hasRoom n size from rfl, h2]; decide)]⟩
  · exact ⟨DiskA.used_ok (DiskA.withFile_ok hok1 _ _) _, by rw [if_pos (show D1.sk.hasRoom n size = true from h2)]; rfl⟩

theorem Dsk.sync {W w : World} {a : Nat} {S : Sk} {own : Own} (h : Dsk W a S own w) (hF : S.Fine) (s : ByteArray) (hs : s.size ≤ maxLen) :
    Calls Tryz.prog 29 #[.pointer (some ⟨a, 0, none⟩), .string s] w fun e w' => e = .returned (.int .i64 (S.sync s).2) ∧ ∃ own', Steps own own' w w' ∧ Dsk W a (S.sync s).1 own' w' := by
  have h0 := h
  obtain ⟨D, hd, hok, rfl⟩ := h.out
  refine (sync_any own a D s w hd hok hF.ops hF.left hs (fun n => Nat.le_of_lt (hF.few n))).mono fun e w' hc => filed_sk (m := true) h0 hok (fun n x D2 _ hp => ?_) (by rw [Bool.true_and]; exact hc)
  obtain ⟨e1, _⟩ := sk_begin D (mayName s)
  have hok1 := DiskA.begin_ok hok (mayName s)
  have hc : D.cont = (D.begin (mayName s)).1.cont := (D.begin_same _).2.2.2.2.1.symm
  obtain ⟨rfl, rfl⟩ := hp
  rw [hc, ← e1]
  exact ⟨DiskA.withFile_ok hok1 _ _, rfl⟩

theorem made_ok {D : DiskA} (h : D.Ok) (s : ByteArray) (fb : Nat) : (D.create s fb).Ok := by
  have hfm : ∀ n, (Mp.get (Mp.put D.fm (D.made + 1) fb) n).isSome = true ↔ n = D.made + 1 ∨ (Mp.get D.fm n).isSome = true := fun n => by
    rw [Mp.get_put]
    by_cases e : D.made + 1 = n
    · subst e; simp
    · rw [if_neg e]
      constructor
      · exact .inr
      · rintro (h | h)
        · exact absurd h.symm e
        · exact h
  refine ⟨fun t n hn => ?_, fun t n hn => ?_, fun t n hn => ?_, fun n hn => ?_⟩
  · refine (hfm n).2 ?_
    have hn' : Mp.get (Mp.put D.seen s (D.made + 1)) t = some n := hn
    rw [Mp.get_put] at hn'
    split at hn'
    · cases hn'; exact .inl rfl
    · exact .inr (h.seenIn t n hn')
  · exact (hfm n).2 (.inr (h.keptIn t n hn))
  · refine (hfm n).2 ?_
    have hn' : NameOp.create t n ∈ D.laid ++ [.create s (D.made + 1)] := hn
    rcases List.mem_append.1 hn' with h1 | h1
    · exact .inr (h.laidIn t n h1)
    · rw [List.mem_singleton] at h1
      cases h1; exact .inl rfl
  · have hn' := (hfm n).1 hn
    show n ≤ D.made + 1
    rcases hn' with h1 | h1
    · omega
    · have := h.made n h1; omega

theorem Dsk.create {W w : World} {a : Nat} {S : Sk} {own : Own} (h : Dsk W a S own w) (hF : S.Fine) (s : ByteArray) (hs : s.size ≤ maxLen) :
    Calls Tryz.prog 21 #[.pointer (some ⟨a, 0, none⟩), .string s] w fun e w' => e = .returned (.int .i64 (S.create s).2) ∧ ∃ own', Steps own own' w w' ∧ Dsk W a (S.create s).1 own' w' := by
  obtain ⟨D, hd, hok, rfl⟩ := h.out
  refine (create_any own a D s w hd hok hF.ops hF.left hs hF.laid hF.made).mono ?_
  rintro e w' ⟨own', hst, hc⟩
  obtain ⟨e1, e2⟩ := sk_begin D (mayName s)
  have hok1 := DiskA.begin_ok hok (mayName s)
  have hseen : D.seen = D.sk.seen := rfl
  unfold Sk.create
  rcases hc with ⟨h1, rfl, hd'⟩ | ⟨h1, h2, rfl, hd'⟩ | ⟨h1, h2, rfl, fb, hd'⟩
  · rw [e2] at h1 ⊢
    rw [if_pos h1]
    exact ⟨rfl, own', hst, h.of_steps hst ⟨_, hd', hok1, e1⟩⟩
  · rw [e2] at h1
    rw [hseen] at h2
    rw [if_neg (by rw [h1]; decide), if_pos h2]
    exact ⟨rfl, own', hst, h.of_steps hst ⟨_, hd', hok1, e1⟩⟩
  · rw [e2] at h1
    rw [hseen] at h2
    rw [if_neg (by rw [h1]; decide), if_neg (by rw [h2]; decide)]
    refine ⟨rfl, own', hst, h.of_steps hst ⟨_, hd', made_ok hok1 _ _, ?_⟩⟩
    have q := fun (f : Sk → Sk) => congrArg f e1
    generalize (D.begin (mayName s)).1 = D1 at *
    have r : ((D1.create s fb).sk) = { D1.sk.withFile (D1.sk.made + 1) ⟨[], [], []⟩ with made := D1.sk.made + 1, seen := Mp.put D1.sk.seen s (D1.sk.made + 1), laid := D1.sk.laid ++ [.create s (D1.sk.made + 1)] } := rfl
    rw [r, e1]; rfl

theorem Dsk.size {W w : World} {a : Nat} {S : Sk} {own : Own} (h : Dsk W a S own w) (s : ByteArray) :
    Calls Tryz.prog 34 #[.pointer (some ⟨a, 0, none⟩), .string s] w fun e w' => e = .returned (sizeV (S.size s)) ∧ w = w' := by
  obtain ⟨D, hd, hok, rfl⟩ := h.out
  exact size_any own a D s w hd hok

theorem Dsk.read {W w : World} {a : Nat} {S : Sk} {own : Own} (h : Dsk W a S own w) (hF : S.Fine) (s : ByteArray) (hs : s.size ≤ maxLen) (off n : Int) :
    Calls Tryz.prog 41 #[.pointer (some ⟨a, 0, none⟩), .string s, .int .i64 off, .int .i64 n] w fun e w' => ∃ p c, e = .returned (.tuple #[.slice p (S.read s off n).1.length c, .int .i64 (S.read s off n).2]) ∧
      w'.ownsRow w.heap.size 5 1 (.slice p (S.read s off n).1.length c) (S.read s off n).1.length (cellsOf (S.read s off n).1) ∧ ((S.read s off n).2 ≠ 0 → p = none ∧ c = 0) ∧ Steps own own w w' ∧ Dsk W a S.tick own w' := by
  obtain ⟨D, hd, hok, rfl⟩ := h.out
  refine (read_any own a D s off n w hd hok hF.ops hF.left hs hF.short).mono ?_
  rintro e w' ⟨hst, hd', hc⟩
  obtain ⟨e1, e2⟩ := sk_begin D ((mayNumber off && mayNumber n) && mayName s)
  have hok1 := DiskA.begin_ok hok ((mayNumber off && mayNumber n) && mayName s)
  have hD := h.of_steps hst ⟨_, hd', hok1, e1⟩
  have e3 : (D.begin ((mayNumber off && mayNumber n) && mayName s)).1.seen = D.sk.seen := congrArg Sk.seen e1
  have e4 : (D.begin ((mayNumber off && mayNumber n) && mayName s)).1.cont = D.sk.cont := congrArg Sk.cont e1
  rw [e2, e3, e4] at hc
  unfold Sk.read
  rcases hc with ⟨h1, rfl⟩ | ⟨h1, h2, rfl⟩ | ⟨h1, h2, h3, k, h4, h5⟩
  · rw [if_pos h1]
    exact ⟨none, 0, rfl, World.ownsRow_nil _ _ _ _, fun _ => ⟨rfl, rfl⟩, hst, hD⟩
  · rw [if_neg (by rw [h1]; decide), h2]
    exact ⟨none, 0, rfl, World.ownsRow_nil _ _ _ _, fun _ => ⟨rfl, rfl⟩, hst, hD⟩
  · rw [if_neg (by rw [h1]; decide), h4]
    dsimp only
    rcases h5 with ⟨h6, rfl⟩ | ⟨h6, v, rfl, hown⟩
    · rw [if_pos h6]
      exact ⟨none, 0, rfl, World.ownsRow_nil _ _ _ _, fun _ => ⟨rfl, rfl⟩, hst, hD⟩
    · rw [if_neg (by omega)]
      dsimp only
      have hl : (((D.sk.cont k).seen.drop off.toNat).take n.toNat).length = n.toNat := by simp; omega
      rw [← hl] at hown
      have hsh : ∃ p c, v = .slice p (((D.sk.cont k).seen.drop off.toNat).take n.toNat).length c := by
        rcases hown.2 with ⟨h, h2⟩ | ⟨g, c, _, h, _⟩
        · exact ⟨none, 0, by rw [h, h2]⟩
        · exact ⟨_, c, h⟩
      obtain ⟨p, c, rfl⟩ := hsh
      rw [hl] at hown
      rw [hl]
      exact ⟨p, c, rfl, hown, fun h => absurd rfl h, hst, hD⟩
end Go.Proofs.YtldkeelgnfegeaaGreat
