/- The law DiskNames: every call of it returns true, and all that was there before the call is as it was. No condition. -/
import Derived.Test.YtleikjmomkdhoaaRows
import Derived.Test.YtleikjmomkdhoaaNmA
import Derived.Test.YtleikjmomkdhoaaAbsM
import Derived.Test.YtleikjmomkdhoaaLaw
import Derived.Handy
namespace Go.Proofs.Ytleikjmomkdhoaa
open Go Go.ChangeShapes Go.WideShapes Go.ChangeAt Go.RowKit Go.By

theorem NI.start {W wr : World} {a : Nat} {own : Own} {room : Int} (hd : DiskIs wr own a (DiskA.new room)) (hf : ∀ k r, own k = some r → W.heap.size ≤ k) (hb : Below W.heap.size W wr) : NI W 0 a own (DiskA.new room) wr where
  disk := hd
  ok := DiskA.new_ok room
  far := hf
  below := hb
  left := rfl
  ops := Nat.le_refl _
  seen := rfl
  kept := rfl
  laid := rfl
  made := rfl
  cont := fun _ => rfl

theorem NI.alloc {W wr : World} {i a : Nat} {own : Own} {D : DiskA} (h : NI W i a own D wr) (o : Obj) : NI W i a own D (wr.alloc o) := by
  have hst : Steps (fun _ => none) (fun _ => none) wr (wr.alloc o) := Steps.of_below ((Below.refl _ _).alloc (Nat.le_refl _) _)
  exact ⟨h.disk.beside (o1 := fun _ => none) (o2 := fun _ => none) hst (fun _ _ _ => .inl rfl), h.ok, h.far, h.below.alloc h.below.size _, h.left, h.ops, h.seen, h.kept, h.laid, h.made, h.cont⟩
theorem NI.call {W wr : World} {i a : Nat} {own : Own} {D : DiskA} (h : NI W i a own D wr) (hi : i < 10) : Calls Try.prog 10 #[.pointer (some ⟨a, 0, none⟩), .string ((⟨#[102]⟩ : ByteArray) ++ Go.By.strOf [48 + i])] wr (Created own a D (nmf i) wr) :=
  create_any own a D (nmf i) wr h.disk h.ok (by have := h.ops; omega) (by rw [h.left]; omega) (by rw [nmf_size i hi]; decide) (by rw [h.laid]; simp [nmOps]; omega) (by rw [h.made]; omega)

theorem NI.crash {W wr : World} {k a : Nat} {own : Own} {D : DiskA} (h : NI W k a own D wr) (hk : k < 10) (c : Nat) (hc : c < 256) :
    Calls Try.prog 14 #[.pointer (some ⟨a, 0, none⟩), .slice (some ⟨wr.heap.size, 0, none⟩) 1 1] (wr.alloc (.cells #[.int .u8 (c : Int)] 5)) fun e w' => e = .returned (.tuple #[]) ∧
      ∃ own' D', DiskIs w' own' a D' ∧ D'.Ok ∧ (∀ k r, own' k = some r → W.heap.size ≤ k) ∧ Below W.heap.size W w' ∧ D'.seen = nmPairs (c % (k + 1)) ∧ ∀ n, (D'.cont n).seen = [] := by
  have h2 := h.alloc (.cells #[.int .u8 (c : Int)] 5)
  have hlen : D.laid.length = k := by rw [h.laid]; simp [nmOps]
  have hf : firstOf [c] D.laid.length = c % (k + 1) := by rw [hlen]; rfl
  have hlt : c % (k + 1) < k + 1 := Nat.mod_lt _ (by omega)
  have hr : redoNames (D.laid.take (firstOf [c] D.laid.length)) D.kept = nmPairs (c % (k + 1)) := by
    rw [hf, h.laid, h.kept, nmOps_take _ _ (by omega), nm_redo _ (by omega)]
  refine (crash_any own a D (.slice (some ⟨wr.heap.size, 0, none⟩) 1 1) [c] _ h2.disk h2.ok (Bytes.one rfl hc) ?_ (by omega) ?_ ⟨fun n => ?_, fun n i => ?_⟩ ?_ ?_).mono ?_
  · intro b hb
    obtain rfl : wr.heap.size = b := by simpa [Value.ownBlock] using hb
    cases e : own wr.heap.size with
    | none => rfl
    | some r => exact absurd (h.disk.here _ r e) (Nat.lt_irrefl _)
  · intro o ho
    rw [h.laid] at ho
    obtain ⟨j, _, rfl⟩ := List.mem_map.1 ho
    rfl
  · rw [h.cont]; exact Nat.zero_le _
  · rw [h.cont]; exact Nat.zero_le _
  · rw [hr]; simp [nmPairs]; omega
  · intro p hp
    rw [hr] at hp
    obtain ⟨j, hj, rfl⟩ := List.mem_map.1 hp
    show (nmf j).size ≤ maxLen
    rw [nmf_size j (by have := List.mem_range.1 hj; omega)]; decide
  · rintro e w' ⟨rfl, own', fm', hs, hd, hok, _⟩
    obtain ⟨hb, hfar⟩ := far_steps h2.far h2.below hs hd.here
    obtain ⟨s1, s2⟩ := NI.crashed (c := c) (fm' := fm') h.laid h.kept hk h.cont
    exact ⟨rfl, own', _, hd, hok, hfar, hb, s1, s2⟩

/-- What the second loop keeps. -/
structure LI (W : World) (r a : Nat) (p : Option Addr) (w : World) : Prop where
  disk : ∃ own D, DiskIs w own a D ∧ D.Ok ∧ D.seen = nmPairs r ∧ ∀ n, (D.cont n).seen = []
  below : Below W.heap.size W w
  row : ∀ i, i < r → ∃ g, p = some ⟨g, 0, none⟩ ∧ g < w.heap.size ∧ w.cell? ⟨g, i, none⟩ = some (.string (nmf i))
theorem LI.alloc {W w : World} {r a : Nat} {p : Option Addr} (h : LI W r a p w) (o : Obj) : LI W r a p (w.alloc o) := by
  have hst : Steps (fun _ => none) (fun _ => none) w (w.alloc o) := Steps.of_below ((Below.refl _ _).alloc (Nat.le_refl _) _)
  obtain ⟨own, D, h1, h2⟩ := h.disk
  refine ⟨⟨own, D, h1.beside (o1 := fun _ => none) (o2 := fun _ => none) hst (fun _ _ _ => .inl rfl), h2⟩, h.below.alloc h.below.size _, fun i hi => ?_⟩
  obtain ⟨g, h3, h4, h5⟩ := h.row i hi
  exact ⟨g, h3, Nat.lt_of_lt_of_le h4 hst.size, (World.cell?_of_block (hst.block g h4 (.inl rfl))).trans h5⟩
theorem LI.drawn {W w w' : World} {r a : Nat} {p : Option Addr} (h : LI W r a p w) (e1 : w'.heap = w.heap) (e2 : w'.os = w.os) (e3 : w'.tape = w.tape) (e4 : w'.output = w.output) : LI W r a p w' := by
  obtain ⟨own, D, h1, h2⟩ := h.disk
  refine ⟨⟨own, D, h1.same e1, h2⟩, h.below.trans ⟨e2, e3, e4, by rw [e1]; exact Nat.le_refl _, fun k _ => by rw [e1]⟩, fun i hi => ?_⟩
  obtain ⟨g, h3, h4, h5⟩ := h.row i hi
  exact ⟨g, h3, by rw [e1]; exact h4, (World.cell?_of_block (by rw [e1])).trans h5⟩
theorem LI.size {W w : World} {r a : Nat} {p : Option Addr} (h : LI W r a p w) {i : Nat} (hi : i < r) (hr : r ≤ 10) :
    Calls Try.prog 15 #[.pointer (some ⟨a, 0, none⟩), .string (nmf i)] w fun e w' => e = .returned (.tuple #[.int .i64 0, .bool true]) ∧ w = w' := by
  obtain ⟨own, D, h1, h2, h3, h4⟩ := h.disk
  refine (size_any own a D (nmf i) w h1 h2).mono ?_
  rintro e w' ⟨rfl, rfl⟩
  refine ⟨?_, rfl⟩
  have : D.size (nmf i) = some 0 := by
    unfold DiskA.size
    rw [h3, nmPairs_get hr (by omega), if_pos hi]
    show some (D.cont (i + 1)).seen.length = _
    rw [h4]; rfl
  rw [this]; rfl
theorem listed {W w : World} {own : Own} {a r : Nat} {D : DiskA} (h : DiskIs w own a D) (hok : D.Ok) (hb : Below W.heap.size W w) (hs : D.seen = nmPairs r) (hc : ∀ n, (D.cont n).seen = []) (hr : r ≤ 9) :
    Calls Try.prog 17 #[.pointer (some ⟨a, 0, none⟩)] w fun e w' => ∃ p cap, e = .returned (.slice p r cap) ∧ LI W r a p w' := by
  have hlen : D.seen.length = r := by rw [hs]; simp [nmPairs]
  refine (list_any own a D w h (fun p hp => ?_) (by omega)).mono ?_
  · rw [hs] at hp
    obtain ⟨j, hj, rfl⟩ := List.mem_map.1 hp
    show (nmf j).size ≤ maxLen
    rw [nmf_size j (by have := List.mem_range.1 hj; omega)]; decide
  · rintro e w' ⟨v, rfl, hrow, _, hb'⟩
    rw [hlen, hs, nm_sorted hr] at hrow
    have hst : Steps (fun _ => none) (fun _ => none) w w' := Steps.of_below hb'
    have hd : ∃ own D, DiskIs w' own a D ∧ D.Ok ∧ D.seen = nmPairs r ∧ ∀ n, (D.cont n).seen = [] := ⟨own, D, h.beside (o1 := fun _ => none) (o2 := fun _ => none) hst (fun _ _ _ => .inl rfl), hok, hs, hc⟩
    have hbw := hb.trans (hb'.mono hb.size)
    have hcells := fun (g : Nat) (hg : v.ownBlock = some g) => World.ownsRow.cells hrow hg
    rcases hrow.2 with ⟨rfl, h0⟩ | ⟨g, cap, cur, rfl, _, hblk, _⟩
    · exact ⟨none, 0, by rw [h0], hd, hbw, fun i hi => by omega⟩
    · refine ⟨_, cap, rfl, hd, hbw, fun i hi => ⟨g, rfl, ?_, ?_⟩⟩
      · exact (Array.getElem?_eq_some_iff.1 hblk).1
      · have := hcells g rfl i (.string (nmf i)) (by
          rw [List.getElem?_map, List.getElem?_map, List.getElem?_range hi]; rfl)
        rw [Addr.add_lit, Nat.zero_add] at this; exact this

theorem nm_tail : ∀ j, j < 10 → (Go.By.strOf [48 + j]).size = 1 := by decide +kernel

set_option maxRecDepth 100000 in
set_option maxHeartbeats 16000000 in
theorem names_any (hbegun : ∀ w : World, Calls Try.prog 7 #[] w fun e w' => e = .returned (.bool true) ∧ Below w.heap.size w w') (n c : Nat) (hn : n < 256) (hc : c < 256) (w : World) :
    Calls Try.prog 4 #[.int .u8 n, .int .u8 c] w fun e w' => e = .returned (.bool true) ∧ Below w.heap.size w w' := by
  have HBG := Lib.hid hbegun
  clear hbegun
  obtain ⟨m, hm⟩ : ∃ m, m = n % 10 := ⟨_, rfl⟩
  have r0 : Int.tmod (n : Int) 10 = (m : Int) := by rw [Int.tmod_eq_emod_of_nonneg (by omega)]; omega
  have hm10 : m < 10 := by omega
  clear hm
  go_enter Try.func4, Try.ntmps4
  go_wp2_with (go_at_call 7; refine (HBG.out _).mono ?_; rintro e w1 ⟨rfl, hb1⟩; have HB1 := Lib.hid hb1; clear hb1)
  refine (new_any 1000 w1).mono ?_
  rintro e w2 ⟨rfl, hd2, hb2⟩
  have hst := NI.start (W := w1) hd2 (fun k r hk => by
    have hk' : (if k = w1.heap.size then some Role.disk else none) = some r := hk
    split at hk'
    · omega
    · cases hk') hb2
  have hlt : w1.heap.size < w2.heap.size := hd2.here _ .disk (if_pos rfl)
  have HST := Lib.hid hst
  clear hd2 hb2 hlt hst
  go_wp2
  go_loopw [7] (fun x wr => ∃ (i : Nat) (own : Own) (D : DiskA), x = .int .i64 i ∧ i ≤ m ∧ NI w1 i w1.heap.size own D wr) (fun x _ => m - (intOf x).toNat)
  case atStart => exact ⟨0, _, _, rfl, by omega, HST.out⟩
  case round =>
    obtain ⟨i, own, D, rfl, hi, hni⟩ := hrel
    clear HST
    by_cases hlt : i < m
    · have hki : (i : Int) < m := by omega
      have wb : IntKind.u8.wrap (48 + (i : Int)) = ((48 + i : Nat) : Int) := IntWalk.u8_in _ (by omega)
      have s1 : (convert 23 9 (.slice (some ⟨wr.heap.size, 0, none⟩) 1 1)).run Try.prog (wr.alloc (.cells #[.int .u8 (48 + (i : Int))] 5)) = .ok (.string (Go.By.strOf [48 + i])) (wr.alloc (.cells #[.int .u8 (48 + (i : Int))] 5)) :=
        (Bytes.one (by push_cast; rfl) (by omega)).toString bytesT (by kernel_rfl)
      have hni2 := hni.alloc (.cells #[.int .u8 (48 + (i : Int))] 5)
      have HNI := Lib.hid hni2
      have HCR := Lib.hid (hni2.call (by omega))
      clear hni hni2
      go_wp2_with fail
      refine HCR.out.mono ?_
      rintro e w3 hc3
      obtain ⟨rfl, own3, D3, hni3⟩ := HNI.out.create (by omega) hc3
      have HNI3 := Lib.hid hni3
      clear hni3 hc3 HCR
      go_wp2
      go_roundw
      case rel => exact ⟨i + 1, own3, D3, by go_num, by omega, HNI3.out⟩
      case measure => simp [intOf]; omega
    · have hk3 : i = m := by omega
      have hki : ¬ (i : Int) < m := by omega
      subst hk3
      have HCR := Lib.hid (hni.crash hm10 c hc)
      obtain ⟨r, hr⟩ : ∃ r, r = c % (i + 1) := ⟨_, rfl⟩
      have hr9 : r ≤ 9 := by have := Nat.mod_lt c (show 0 < i + 1 by omega); omega
      have wm : IntKind.i64.wrap ((i : Int) + 1) = (i : Int) + 1 := IntWalk.i64_in _ (by omega)
      have rm : Int.tmod (c : Int) ((i : Int) + 1) = (r : Int) := by
        rw [Int.tmod_eq_emod_of_nonneg (by omega), hr]; push_cast; rfl
      clear hni
      go_wp2_with fail
      refine HCR.out.mono ?_
      rintro e w3 ⟨rfl, own3, D3, hd3, hok3, hfar3, hb3, hs3, hc3⟩
      rw [← hr] at hs3
      have HL := Lib.hid (listed hd3 hok3 hb3 hs3 hc3 hr9)
      clear hr hd3 hok3 hfar3 hb3 hs3 hc3 HCR
      go_wp2_with (go_at_call 17; refine HL.out.mono ?_; rintro e w4 ⟨p, cap, rfl, hli⟩; have HLI := Lib.hid hli; clear hli)
      clear HL rm wm
      go_loopw [9] (fun x wi => ∃ j : Nat, x = .int .i64 j ∧ j ≤ r ∧ LI w1 r w1.heap.size p wi) (fun x _ => r - (intOf x).toNat)
      case atStart => exact ⟨0, rfl, by omega, HLI.out⟩
      case round =>
        obtain ⟨j, rfl, hj, hli⟩ := hrel
        clear HLI
        rename World => wi
        have HLI := Lib.hid hli
        by_cases hlt : j < r
        · have hji : (j : Int) < r := by omega
          obtain ⟨g, rfl, hg, hcell⟩ := hli.row j hlt
          have HSZ := Lib.hid (hli.size hlt (by omega))
          have wb : IntKind.u8.wrap (48 + (j : Int)) = ((48 + j : Nat) : Int) := IntWalk.u8_in _ (by omega)
          have s1 : (convert 23 9 (.slice (some ⟨wi.heap.size, 0, none⟩) 1 1)).run Try.prog (wi.alloc (.cells #[.int .u8 (48 + (j : Int))] 5)).drew = .ok (.string (Go.By.strOf [48 + j])) (wi.alloc (.cells #[.int .u8 (48 + (j : Int))] 5)).drew :=
            ((Bytes.one (by push_cast; rfl) (by omega)).below ((Below.refl (wi.alloc (.cells #[.int .u8 (48 + (j : Int))] 5)).heap.size _).drew)).toString bytesT (by kernel_rfl)
          have sA : Op.stringOp .add (⟨#[102]⟩ : ByteArray) (Go.By.strOf [48 + j]) = pure (.string (nmf j)) := by
            simp only [Op.stringOp]
            rw [if_neg (by rw [nm_tail j (by omega)]; decide)]
            rfl
          clear hli
          go_wp2_with (go_at_call 15; refine HSZ.out.mono ?_; rintro e w5 ⟨rfl, rfl⟩)
          go_region
          all_goals
            go_wp2
            go_roundw
            case rel => exact ⟨j + 1, by go_num, by omega, (HLI.out.alloc _).drawn rfl rfl rfl rfl⟩
            case measure => simp [intOf]; omega
        · have hji : ¬ (j : Int) < r := by omega
          have hfin := HB1.out.trans (hli.below.mono HB1.out.size)
          have HFIN := Lib.hid hfin
          clear hli hfin HLI
          go_wp2
          go_ret
          exact ⟨rfl, HFIN.out⟩

theorem own_none : ownKnob Try.prog.godebug = none := by kernel_rfl
theorem laidOut : laidOutB Try.prog = true := by kernel_rfl

set_option maxRecDepth 100000 in
theorem names_lifted (os : Os) (started : os.Started) (H : Type) (enc : TypeId × Value → H) :
    ReturnsInHanded {} Try.checked os 4 .any (Rows.diskNamesSpec.pre6 enc Try.prog Try.f4 Rows.diskNamesRow.domain false) (Rows.diskNamesSpec.post enc Try.prog Try.f4 false true false false) := by
  refine returnsInHanded_of_change (C := Try.checked) own_none started (by kernel_rfl) Try.func4
    (ChangeSpec.witness6 (enc := enc) (C := Try.checked) false ⟨#[], #[.int .u8 0, .int .u8 0], []⟩ 8 (by kernel_rfl) (by kernel_rfl) (by kernel_rfl) (by kernel_rfl)) ?_
  intro W base args ds gs before hval0 hW hcnd _
  have hval : ∀ (j : Nat) t v, Try.f4.params[j]? = some t → args[j]? = some v → Value.okWide Try.prog W .any base t v := hval0
  have hW' := hW
  obtain ⟨p, q, hA0, hV, rfl, hfz, hnd⟩ := hW
  have hA : DataW.TrodAll enc Try.prog W 0 (fun _ => true) true Try.f4.params.toList args.toList ds p := hA0
  have hp : Try.f4.params = #[5, 5] := by kernel_rfl
  rw [hp] at hA hval
  obtain ⟨v0, v1, d0, d1, p0, p1, rfl, rfl, rfl, h0, h1⟩ := trodAll_two hA
  obtain ⟨rfl, rfl⟩ := trodVars_none hV
  obtain ⟨a, rfl, _, _, wa⟩ := open_int (P := Try.prog) (t := 5) (k := .u8) (by kernel_rfl) (hval 0 5 v0 rfl rfl) h0
  obtain ⟨n, rfl, hn⟩ := u8_of_wf wa
  obtain ⟨b, rfl, _, _, wb⟩ := open_int (P := Try.prog) (t := 5) (k := .u8) (by kernel_rfl) (hval 1 5 v1 rfl rfl) h1
  obtain ⟨c, rfl, hc⟩ := u8_of_wf wb
  refine (names_any (fun w => Go.Abs.begun_any w) n c hn hc W).mono fun e W' ⟨he, hb⟩ => ?_
  subst he
  exact ⟨_, rfl, law_post (tb := 4) laidOut (by rw [hp]; intro t ht; simp at ht; rcases ht with rfl | rfl <;> exact ⟨by kernel_rfl, by decide +kernel⟩) rfl rfl (by kernel_rfl) (by kernel_rfl) hW' hb⟩

theorem diskNames_holds : Rows.DiskNamesSaid :=
  OpenClaim.holds_of_wide 4 Try.f4 rfl rfl rfl rfl rfl rfl rfl ⟨rfl, rfl, rfl, rfl, rfl⟩ rfl rfl rfl rfl rfl (by kernel_rfl) Try.func4 (by kernel_rfl)
    (of_decide_eq_true (by kernel_rfl)) (by unfold Func.isWrapper; rw [if_neg (by decide +kernel)]; exact ⟨rfl, rfl⟩)
    (fun os started H enc _ => names_lifted os started H enc)
end Go.Proofs.Ytleikjmomkdhoaa
