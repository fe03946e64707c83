/- The law of how much room there is: its walk. -/
import Derived.Test.YtljhflkcikpoiaaDskV
import Derived.Handy
namespace Go.Proofs.Ytljhflkcikpoiaa
open Go Go.RowKit Go.By

set_option maxRecDepth 100000 in
set_option maxHeartbeats 16000000 in
theorem room_walk (hbegun : ∀ w : World, Calls Try.prog 7 #[] w fun e w' => e = .returned (.bool true) ∧ Below w.heap.size w w')
    (room : Nat) (hroom : room < 256) (p : Option Addr) (n cap : Nat) (w : World) (hn : n ≤ 30) (T : Nat → Nat → Nat) (hT : ∀ i c, T i c < 256) (hp : ∀ i, i < n → ∃ lb lo, p = some ⟨lb, lo, none⟩ ∧ ∀ c, c < 3 → w.cell? ⟨lb, lo + i * 3 + c, none⟩ = some (.int .u8 (T i c : Nat))) :
    Calls Try.prog 5 #[.int .u8 room, .slice p n cap] w fun e w' => e = .returned (.bool true) ∧ Below w.heap.size w w' := by
  have HBG := Lib.hid hbegun; have HP := Lib.hid hp; have HT := Lib.hid hT
  clear hbegun hp hT
  have hd30 : decide ((30 : Int) < n) = false := by simp; omega
  go_enter Try.func5, Try.ntmps5
  go_wp2_with (go_at_call 7; refine (HBG.out _).mono ?_; rintro e w1 ⟨rfl, hb1⟩; have HB1 := Lib.hid hb1; clear hb1)
  refine (new_any room w1).mono ?_
  rintro e w2 ⟨rfl, hd2, hb2⟩
  have hlt : w1.heap.size < w2.heap.size := hd2.here _ .disk (if_pos rfl)
  have hst := RI.start (room := room) (ob := Obj.cells #[Value.string ⟨#[97]⟩, Value.string ⟨#[98]⟩, Value.string ⟨#[99]⟩] 9) hb2 hlt hd2 (fun k hk => by
    rw [cell_new]
    match k with
    | 0 => rfl
    | 1 => rfl
    | 2 => rfl
    | _ + 3 => omega)
  have HST := Lib.hid hst
  clear hd2 hb2 hlt hst
  go_wp2
  go_loopw [7] (fun x wr => ∃ (k : Nat) (own : Own) (D : DiskA), x = .int .i64 k ∧ k ≤ 3 ∧ RI w1 w2.heap.size room k k (fun _ => 0) w1.heap.size own D wr) (fun x _ => 3 - (intOf x).toNat)
  case atStart => exact ⟨0, _, _, rfl, by omega, HST.out⟩
  case round =>
    obtain ⟨k, own, D, rfl, hk, hri⟩ := hrel
    clear HST
    have HRI := Lib.hid hri
    by_cases hlt : k < 3
    · have hki : (k : Int) < 3 := by omega
      have g1 := hri.names.2.2 k hlt
      have hcr := create_any own w1.heap.size D (nm k) wr hri.disk hri.ok (by have := hri.ops; omega) (by rw [hri.left]; omega) (by rw [nm_size]; decide) (by rw [hri.laid]; omega) (by rw [hri.made]; omega)
      have HCR := Lib.hid hcr
      clear hri hcr
      go_wp2_with fail
      refine HCR.out.mono ?_
      rintro e w3 hc
      obtain ⟨rfl, own3, D3, hri3⟩ := HRI.out.create hlt hc
      have HRI3 := Lib.hid hri3
      clear hri3 hc
      go_wp2
      go_roundw
      case rel => exact ⟨k + 1, own3, D3, by go_num, by omega, HRI3.out⟩
      case measure => simp [intOf]; omega
    · have hk3 : k = 3 := by omega
      have hki : ¬ (k : Int) < 3 := by omega
      rw [hk3] at hri
      clear hlt hk hk3
      have hsb : own wr.heap.size = none := by
        cases e : own wr.heap.size with
        | none => rfl
        | some r => exact absurd (hri.disk.here _ r e) (Nat.lt_irrefl _)
      have hS : SI w1 w2.heap.size wr.heap.size room 0 (fun _ => 0) w1.heap.size own D (wr.alloc (.cells #[.int .i64 0, .int .i64 0, .int .i64 0] 45)) := SI.start hri
      have HS := Lib.hid hS
      clear hri hsb hS HRI
      go_wp2
      obtain ⟨sb, hsb⟩ : ∃ sb, sb = wr.heap.size := ⟨_, rfl⟩
      rw [← hsb] at HS ⊢
      clear hsb
      go_loopw [9] (fun x wi => ∃ (i : Nat) (sz : Nat → Nat) (own : Own) (D : DiskA), x = .int .i64 i ∧ i ≤ n ∧ SI w1 w2.heap.size sb room i sz w1.heap.size own D wi) (fun x _ => n - (intOf x).toNat)
      case atStart => exact ⟨0, _, own, D, rfl, by omega, HS.out⟩
      case round =>
        obtain ⟨i, sz, own, D, rfl, hi, hsi⟩ := hrel
        clear HS
        have HSI := Lib.hid hsi
        by_cases hlt : i < n
        · have hii : (i : Int) < n := by omega
          obtain ⟨lb, lo, rfl, hc⟩ := HP.out i hlt
          have hold : ∀ c, c < 3 → wr.cell? ⟨lb, lo + i * 3 + c, none⟩ = some (.int .u8 (T i c : Nat)) := fun c hc3 => hsi.old HB1.out (hc c hc3)
          have hlb : lb < w1.heap.size := Nat.lt_of_lt_of_le (block_lt_of_cell (hc 0 (by omega))) HB1.out.size
          have HLB := Lib.hid hlb; clear hlb
          have c0 : wr.cell? ⟨lb, lo + i * 3, none⟩ = some (.int .u8 (T i 0 : Nat)) := hold 0 (by omega)
          have c1 := hold 1 (by omega)
          have c2 := hold 2 (by omega)
          have b0 := HT.out i 0
          have b1 := HT.out i 1
          have b2 := HT.out i 2
          generalize T i 0 = t0 at *
          generalize T i 1 = t1 at *
          generalize T i 2 = t2 at *
          obtain ⟨k, hk⟩ : ∃ k, k = t0 % 3 := ⟨_, rfl⟩
          obtain ⟨off, hoff⟩ : ∃ k, k = t1 % 100 := ⟨_, rfl⟩
          obtain ⟨cnt, hcnt⟩ : ∃ k, k = t2 % 50 := ⟨_, rfl⟩
          have r0 : Int.tmod (t0 : Int) 3 = (k : Int) := by rw [Int.tmod_eq_emod_of_nonneg (by omega)]; omega
          have r1 : Int.tmod (t1 : Int) 100 = (off : Int) := by rw [Int.tmod_eq_emod_of_nonneg (by omega)]; omega
          have r2 : Int.tmod (t2 : Int) 50 = (cnt : Int) := by rw [Int.tmod_eq_emod_of_nonneg (by omega)]; omega
          have k3 : k < 3 := by omega
          have k4 : off < 100 := by omega
          have k5 : cnt < 50 := by omega
          clear hsi hold hc hk hoff hcnt
          go_wp2
          go_quiet (fail)
          have hsq := HSI.out.drawn (w' := wr.drewN nq) rfl rfl rfl rfl
          have c0' : (wr.drewN nq).cell? ⟨lb, lo + i * 3, none⟩ = some (.int .u8 (t0 : Nat)) := c0
          generalize wr.drewN nq = wq at *
          have HSQ := Lib.hid hsq
          have d0 := (hsq.cell (k := 0) (by omega)).1
          have d1 := (hsq.cell (k := 1) (by omega)).1
          have d2 := (hsq.cell (k := 2) (by omega)).1
          have dk := (hsq.cell k3).1
          have dn := hsq.base.names.2.2 k k3
          have f0 := hsq.few 1; have f1 := hsq.few 2; have f2 := hsq.few 3; have f3 := hsq.few (k + 1)
          have hfit := hsq.fits
          have FEW := Lib.hid (And.intro f0 (And.intro f1 (And.intro f2 f3)))
          simp only [Nat.zero_add] at d0
          clear c0 c1 c2 hsq
          have hks : sz (k + 1) ≤ sz 1 + sz 2 + sz 3 := sz_le sz k3
          have hmax : (sz (k + 1) : Int) < (off : Int) + cnt ∨ ¬ (sz (k + 1) : Int) < (off : Int) + cnt := by omega
          have w1' : IntKind.i64.wrap ((sz 1 : Int) + sz 2) = (sz 1 : Int) + sz 2 := IntWalk.i64_in _ (by omega)
          have w2' : IntKind.i64.wrap ((sz 1 : Int) + sz 2 + sz 3) = (sz 1 : Int) + sz 2 + sz 3 := IntWalk.i64_in _ (by omega)
          have w3' : IntKind.i64.wrap ((sz 1 : Int) + sz 2 + sz 3 - sz (k + 1)) = (sz 1 : Int) + sz 2 + sz 3 - sz (k + 1) := IntWalk.i64_in _ (by omega)
          by_cases ht : 200 < t0
          · have hti : (200 : Int) < t0 := by omega
            have w4' : IntKind.i64.wrap ((sz 1 : Int) + sz 2 + sz 3 - sz (k + 1) + off) = (sz 1 : Int) + sz 2 + sz 3 - sz (k + 1) + off := IntWalk.i64_in _ (by omega)
            have hdt : decide ((200 : Int) < t0) = true := by simp; omega
            rcases hmax with hmax | hmax
            all_goals
              go_wp2
              go_quiet (fail)
              have hsr := HSQ.out.drawn (w' := wq.drewN nq) rfl rfl rfl rfl
              have c0'' : (wq.drewN nq).cell? ⟨lb, lo + i * 3, none⟩ = some (.int .u8 (t0 : Nat)) := c0'
              have dn' : (wq.drewN nq).cell? ⟨w2.heap.size, k, none⟩ = some (.string (nm k)) := dn
              generalize wq.drewN nq = wv at *
              have hcall := hsr.truncate_call (by omega) hroom k3 k4
              have hold2 : ∀ (w4 : World) (sz' : Nat → Nat), Left w1 w2.heap.size sb room i sz w1.heap.size w4 sz' → w4.cell? ⟨w2.heap.size, k, none⟩ = some (.string (nm k)) ∧ w4.cell? ⟨lb, lo + i * 3, none⟩ = some (.int .u8 (t0 : Nat)) := fun w4 sz' hl => by
                obtain ⟨own4, D4, hr4, _⟩ := hl
                refine ⟨hr4.names.2.2 k k3, ?_⟩
                have hlb : lb < w1.heap.size := HLB.out
                rw [World.cell?_of_block (hr4.below.block lb hlb), ← c0'']
                exact (World.cell?_of_block (hsr.base.below.block lb hlb)).symm
              have HOLD2 := Lib.hid hold2
              have HSR := Lib.hid hsr; have HCALL := Lib.hid hcall
              clear hsr hcall c0' dn d0 d1 d2 dk w1' w2' w3' w4' hold2
              go_wp2_with fail
              refine HCALL.out.mono ?_
              rintro e w4 (⟨hfi, rfl, hl⟩ | ⟨hfi, rfl, hl⟩)
              · have dft : decide ((sz 1 : Int) + sz 2 + sz 3 - sz (k + 1) + off ≤ room) = true := decide_eq_true hfi
                obtain ⟨j1, j2⟩ := HOLD2.out w4 _ hl
                obtain ⟨⟨j3, j4⟩, own5, D5, hs5⟩ := HSR.out.next hl k3 (by omega) hfi
                have j5 := hs5.base.names.2.2 k k3
                have j6 := (hs5.cell k3).1
                have j7 := hs5.base.size_call k3
                simp only [if_true] at j6 j7
                have HS5 := Lib.hid hs5; have J7 := Lib.hid j7
                clear hl hfi hs5 j7
                go_wp2_with (go_at_call 15; refine J7.out.mono ?_; rintro e w5 ⟨rfl, rfl⟩)
                go_roundw
                case rel => exact ⟨i + 1, _, own5, D5, by go_num, by omega, HS5.out⟩
                case measure => simp [intOf]; omega
              · have dft : decide ((sz 1 : Int) + sz 2 + sz 3 - sz (k + 1) + off ≤ room) = false := decide_eq_false (by first | (unfold fitsIn at hfi; omega) | omega)
                obtain ⟨j1, j2⟩ := HOLD2.out w4 _ hl
                obtain ⟨own5, D5, hs5⟩ := HSR.out.rest hl
                have j6 := (hs5.cell k3).1
                have j7 := hs5.base.size_call k3
                have HS5 := Lib.hid hs5; have J7 := Lib.hid j7
                clear hl hfi hs5 j7
                go_wp2_with (go_at_call 15; refine J7.out.mono ?_; rintro e w5 ⟨rfl, rfl⟩)
                go_roundw
                case rel => exact ⟨i + 1, _, own5, D5, by go_num, by omega, HS5.out⟩
                case measure => simp [intOf]; omega
          · have hti : ¬ (200 : Int) < t0 := by omega
            have hdt : decide ((200 : Int) < t0) = false := by simp; omega
            by_cases hc0 : cnt = 0
            · subst hc0
              have w4' : IntKind.i64.wrap ((sz 1 : Int) + sz 2 + sz 3 - sz (k + 1) + sz (k + 1)) = (sz 1 : Int) + sz 2 + sz 3 - sz (k + 1) + sz (k + 1) := IntWalk.i64_in _ (by omega)
              rcases hmax with hmax | hmax
              all_goals
                go_wp2
                go_quiet (fail)
                have hsr := HSQ.out.drawn (w' := wq.drewN nq) rfl rfl rfl rfl
                have c0'' : (wq.drewN nq).cell? ⟨lb, lo + i * 3, none⟩ = some (.int .u8 (t0 : Nat)) := c0'
                have dn' : (wq.drewN nq).cell? ⟨w2.heap.size, k, none⟩ = some (.string (nm k)) := dn
                generalize wq.drewN nq = wv at *
                have hmk : ∀ w0 : World, (Instr.makeSlice 23 (.int .i64 0) (.int .i64 0)).run Try.prog w0 = .ok (.slice (some ⟨w0.heap.size, 0, none⟩) 0 0) (w0.alloc (.cells (zeros 0) 5)) := made_run 0 (by omega)
                have hcall : ∀ w0 : World, w0.heap = (wv.alloc (.cells (zeros 0) 5)).heap → w0.os = wv.os → w0.tape = wv.tape → w0.output = wv.output → Calls Try.prog 11 #[.pointer (some ⟨w1.heap.size, 0, none⟩), .string (nm k), .int .i64 off, .slice (some ⟨wv.heap.size, 0, none⟩) 0 0] w0 fun e w' =>
                    e = .returned (.int .i64 0) ∧ Left w1 w2.heap.size sb room i sz w1.heap.size w' sz := fun w0 q1 q2 q3 q4 => (hsr.made_call (by omega) hroom k3 k4 k5 w0 q1 q2 q3 q4).mono (by
                  rintro e w' (⟨_, h1, h2⟩ | ⟨h1, _⟩ | ⟨h1, _⟩)
                  · exact ⟨h1, h2⟩
                  · omega
                  · omega)
                have dn2 : (wv.alloc (.cells (zeros 0) 5)).cell? ⟨w2.heap.size, k, none⟩ = some (.string (nm k)) := (hsr.alloc _).base.names.2.2 k k3
                have hold2 : ∀ (w4 : World) (sz' : Nat → Nat), Left w1 w2.heap.size sb room i sz w1.heap.size w4 sz' → w4.cell? ⟨w2.heap.size, k, none⟩ = some (.string (nm k)) ∧ w4.cell? ⟨lb, lo + i * 3, none⟩ = some (.int .u8 (t0 : Nat)) := fun w4 sz' hl => by
                  obtain ⟨own4, D4, hr4, _⟩ := hl
                  refine ⟨hr4.names.2.2 k k3, ?_⟩
                  have hlb : lb < w1.heap.size := HLB.out
                  rw [World.cell?_of_block (hr4.below.block lb hlb), ← c0'']
                  exact (World.cell?_of_block (hsr.base.below.block lb hlb)).symm
                have HOLD2 := Lib.hid hold2
                have HSR := Lib.hid hsr; have HCALL := Lib.hid hcall
                clear hsr hcall c0' dn d0 d1 d2 dk w1' w2' w3' w4' hold2
                go_wp2_with fail
                go_region_with (go_at_call 11; refine (HCALL.out _ (by rfl) (by rfl) (by rfl) (by rfl)).mono ?_; rintro e w4 ⟨rfl, hl⟩; have HL := Lib.hid hl; clear hl)
                all_goals
                  obtain ⟨j1, j2⟩ := HOLD2.out w4 _ HL.out
                  have hszk : (fun j => if j = k + 1 then sz (k + 1) else sz j) = sz := by
                    funext j; split
                    · rename_i e; rw [e]
                    · rfl
                  obtain ⟨⟨j3, j4⟩, own5, D5, hs5⟩ := HSR.out.next (to := sz (k + 1)) (by rw [hszk]; exact HL.out) k3 FEW.out.2.2.2 (by unfold fitsIn; omega)
                  rw [hszk] at hs5
                  have j5 := hs5.base.names.2.2 k k3
                  have j6 := (hs5.cell k3).1
                  have j7 := hs5.base.size_call k3
                  have dS : decide ((sz 1 : Int) + sz 2 + sz 3 ≤ room) = true := by simp; omega
                  have HS5 := Lib.hid hs5; have J7 := Lib.hid j7
                  clear hs5 j7 hmk hszk
                  go_wp2_with (go_at_call 15; refine J7.out.mono ?_; rintro e w5 ⟨rfl, rfl⟩)
                  go_roundw
                  case rel => exact ⟨i + 1, _, own5, D5, by go_num, by omega, HS5.out⟩
                  case measure => simp [intOf]; omega
            · have hc0i : ¬ (cnt : Int) = 0 := by omega
              have hdc : decide ((cnt : Int) = 0) = false := by simp [hc0]
              obtain ⟨to, hto⟩ : ∃ to, to = max (sz (k + 1)) (off + cnt) := ⟨_, rfl⟩
              have hto1 : to ≤ 150 := by have := FEW.out.2.2.2; omega
              have hmk := made_run cnt k5
              rcases hmax with hmax | hmax
              · have et : (off : Int) + cnt = (to : Int) := by omega
                rw [et] at hmax
                have w4' : IntKind.i64.wrap ((sz 1 : Int) + sz 2 + sz 3 - sz (k + 1) + to) = (sz 1 : Int) + sz 2 + sz 3 - sz (k + 1) + to := IntWalk.i64_in _ (by omega)
                have HTO := Lib.hid hto
                clear hto
                go_wp2
                go_quiet (fail)
                have hsr := HSQ.out.drawn (w' := wq.drewN nq) rfl rfl rfl rfl
                have c0'' : (wq.drewN nq).cell? ⟨lb, lo + i * 3, none⟩ = some (.int .u8 (t0 : Nat)) := c0'
                have dn' : (wq.drewN nq).cell? ⟨w2.heap.size, k, none⟩ = some (.string (nm k)) := dn
                generalize wq.drewN nq = wv at *
                have hcall : ∀ w0 : World, w0.heap = (wv.alloc (.cells (zeros cnt) 5)).heap → w0.os = wv.os → w0.tape = wv.tape → w0.output = wv.output → Calls Try.prog 11 #[.pointer (some ⟨w1.heap.size, 0, none⟩), .string (nm k), .int .i64 off, .slice (some ⟨wv.heap.size, 0, none⟩) cnt cnt] w0 fun e w' =>
                    ∃ x : Int, e = .returned (.int .i64 x) ∧ ((fitsIn sz room k to ∧ x = 0 ∧ Left w1 w2.heap.size sb room i sz w1.heap.size w' (fun j => if j = k + 1 then to else sz j)) ∨ (¬ fitsIn sz room k to ∧ x = 4 ∧ Left w1 w2.heap.size sb room i sz w1.heap.size w' sz)) := fun w0 q1 q2 q3 q4 => (hsr.made_call (by omega) hroom k3 k4 k5 w0 q1 q2 q3 q4).mono (by
                  rintro e w' (⟨h0, _⟩ | ⟨_, h1, h2, h3⟩ | ⟨_, h1, h2, h3⟩)
                  · omega
                  · rw [← HTO.out] at h1 h3; exact ⟨0, h2, .inl ⟨h1, rfl, h3⟩⟩
                  · rw [← HTO.out] at h1; exact ⟨4, h2, .inr ⟨h1, rfl, h3⟩⟩)
                have dn2 : (wv.alloc (.cells (zeros cnt) 5)).cell? ⟨w2.heap.size, k, none⟩ = some (.string (nm k)) := (hsr.alloc _).base.names.2.2 k k3
                have hold2 : ∀ (w4 : World) (sz' : Nat → Nat), Left w1 w2.heap.size sb room i sz w1.heap.size w4 sz' → w4.cell? ⟨w2.heap.size, k, none⟩ = some (.string (nm k)) ∧ w4.cell? ⟨lb, lo + i * 3, none⟩ = some (.int .u8 (t0 : Nat)) := fun w4 sz' hl => by
                  obtain ⟨own4, D4, hr4, _⟩ := hl
                  refine ⟨hr4.names.2.2 k k3, ?_⟩
                  have hlb : lb < w1.heap.size := HLB.out
                  rw [World.cell?_of_block (hr4.below.block lb hlb), ← c0'']
                  exact (World.cell?_of_block (hsr.base.below.block lb hlb)).symm
                have HOLD2 := Lib.hid hold2
                have HSR := Lib.hid hsr; have HCALL := Lib.hid hcall
                clear hsr hcall c0' dn d0 d1 d2 dk w1' w2' w3' w4' hold2
                go_wp2_with fail
                go_region_with (go_at_call 11; refine (HCALL.out _ (by rfl) (by rfl) (by rfl) (by rfl)).mono ?_; rintro e w4 ⟨x, rfl, hl⟩; have HL := Lib.hid hl; clear hl)
                all_goals
                  clear hmk
                  rcases HL.out with ⟨hfi, rfl, hl⟩ | ⟨hfi, rfl, hl⟩
                  · have dft : decide ((sz 1 : Int) + sz 2 + sz 3 - sz (k + 1) + to ≤ room) = true := decide_eq_true hfi
                    obtain ⟨j1, j2⟩ := HOLD2.out w4 _ hl
                    obtain ⟨⟨j3, j4⟩, own5, D5, hs5⟩ := HSR.out.next hl k3 hto1 hfi
                    have j5 := hs5.base.names.2.2 k k3
                    have j6 := (hs5.cell k3).1
                    have j7 := hs5.base.size_call k3
                    simp only [if_true] at j6 j7
                    have HS5 := Lib.hid hs5; have J7 := Lib.hid j7
                    clear hl hfi hs5 j7 HL
                    go_wp2_with (go_at_call 15; refine J7.out.mono ?_; rintro e w5 ⟨rfl, rfl⟩)
                    go_roundw
                    case rel => exact ⟨i + 1, _, own5, D5, by go_num, by omega, HS5.out⟩
                    case measure => simp [intOf]; omega
                  · have dft : decide ((sz 1 : Int) + sz 2 + sz 3 - sz (k + 1) + to ≤ room) = false := decide_eq_false (by first | (unfold fitsIn at hfi; omega) | omega)
                    obtain ⟨j1, j2⟩ := HOLD2.out w4 _ hl
                    obtain ⟨own5, D5, hs5⟩ := HSR.out.rest hl
                    have j6 := (hs5.cell k3).1
                    have j7 := hs5.base.size_call k3
                    have HS5 := Lib.hid hs5; have J7 := Lib.hid j7
                    clear hl hfi hs5 j7 HL
                    go_wp2_with (go_at_call 15; refine J7.out.mono ?_; rintro e w5 ⟨rfl, rfl⟩)
                    go_roundw
                    case rel => exact ⟨i + 1, _, own5, D5, by go_num, by omega, HS5.out⟩
                    case measure => simp [intOf]; omega
              · have et : to = sz (k + 1) := by omega
                have w4' : IntKind.i64.wrap ((sz 1 : Int) + sz 2 + sz 3 - sz (k + 1) + sz (k + 1)) = (sz 1 : Int) + sz 2 + sz 3 - sz (k + 1) + sz (k + 1) := IntWalk.i64_in _ (by omega)
                have HTO := Lib.hid (et ▸ hto : sz (k + 1) = max (sz (k + 1)) (off + cnt))
                clear hto et hto1
                go_wp2
                go_quiet (fail)
                have hsr := HSQ.out.drawn (w' := wq.drewN nq) rfl rfl rfl rfl
                have c0'' : (wq.drewN nq).cell? ⟨lb, lo + i * 3, none⟩ = some (.int .u8 (t0 : Nat)) := c0'
                have dn' : (wq.drewN nq).cell? ⟨w2.heap.size, k, none⟩ = some (.string (nm k)) := dn
                generalize wq.drewN nq = wv at *
                have hcall : ∀ w0 : World, w0.heap = (wv.alloc (.cells (zeros cnt) 5)).heap → w0.os = wv.os → w0.tape = wv.tape → w0.output = wv.output → Calls Try.prog 11 #[.pointer (some ⟨w1.heap.size, 0, none⟩), .string (nm k), .int .i64 off, .slice (some ⟨wv.heap.size, 0, none⟩) cnt cnt] w0 fun e w' =>
                    ∃ x : Int, e = .returned (.int .i64 x) ∧ ((fitsIn sz room k (sz (k + 1)) ∧ x = 0 ∧ Left w1 w2.heap.size sb room i sz w1.heap.size w' (fun j => if j = k + 1 then sz (k + 1) else sz j)) ∨ (¬ fitsIn sz room k (sz (k + 1)) ∧ x = 4 ∧ Left w1 w2.heap.size sb room i sz w1.heap.size w' sz)) := fun w0 q1 q2 q3 q4 => (hsr.made_call (by omega) hroom k3 k4 k5 w0 q1 q2 q3 q4).mono (by
                  rintro e w' (⟨h0, _⟩ | ⟨_, h1, h2, h3⟩ | ⟨_, h1, h2, h3⟩)
                  · omega
                  · rw [← HTO.out] at h1 h3; exact ⟨0, h2, .inl ⟨h1, rfl, h3⟩⟩
                  · rw [← HTO.out] at h1; exact ⟨4, h2, .inr ⟨h1, rfl, h3⟩⟩)
                have dn2 : (wv.alloc (.cells (zeros cnt) 5)).cell? ⟨w2.heap.size, k, none⟩ = some (.string (nm k)) := (hsr.alloc _).base.names.2.2 k k3
                have hold2 : ∀ (w4 : World) (sz' : Nat → Nat), Left w1 w2.heap.size sb room i sz w1.heap.size w4 sz' → w4.cell? ⟨w2.heap.size, k, none⟩ = some (.string (nm k)) ∧ w4.cell? ⟨lb, lo + i * 3, none⟩ = some (.int .u8 (t0 : Nat)) := fun w4 sz' hl => by
                  obtain ⟨own4, D4, hr4, _⟩ := hl
                  refine ⟨hr4.names.2.2 k k3, ?_⟩
                  have hlb : lb < w1.heap.size := HLB.out
                  rw [World.cell?_of_block (hr4.below.block lb hlb), ← c0'']
                  exact (World.cell?_of_block (hsr.base.below.block lb hlb)).symm
                have HOLD2 := Lib.hid hold2
                have HSR := Lib.hid hsr; have HCALL := Lib.hid hcall
                clear hsr hcall c0' dn d0 d1 d2 dk w1' w2' w3' w4' hold2
                go_wp2_with fail
                go_region_with (go_at_call 11; refine (HCALL.out _ (by rfl) (by rfl) (by rfl) (by rfl)).mono ?_; rintro e w4 ⟨x, rfl, hl⟩; have HL := Lib.hid hl; clear hl)
                all_goals
                  clear hmk
                  rcases HL.out with ⟨hfi, rfl, hl⟩ | ⟨hfi, rfl, hl⟩
                  · have dS : decide ((sz 1 : Int) + sz 2 + sz 3 ≤ room) = true := by simp; omega
                    obtain ⟨j1, j2⟩ := HOLD2.out w4 _ hl
                    obtain ⟨⟨j3, j4⟩, own5, D5, hs5⟩ := HSR.out.next hl k3 FEW.out.2.2.2 hfi
                    have j5 := hs5.base.names.2.2 k k3
                    have j6 := (hs5.cell k3).1
                    have j7 := hs5.base.size_call k3
                    simp only [if_true] at j6 j7
                    have HS5 := Lib.hid hs5; have J7 := Lib.hid j7
                    clear hl hfi hs5 j7 HL
                    go_wp2_with (go_at_call 15; refine J7.out.mono ?_; rintro e w5 ⟨rfl, rfl⟩)
                    go_roundw
                    case rel => exact ⟨i + 1, _, own5, D5, by go_num, by omega, HS5.out⟩
                    case measure => simp [intOf]; omega
                  · exact absurd (show fitsIn sz room k (sz (k + 1)) by unfold fitsIn; omega) (by first | exact hfi | (unfold fitsIn; omega))
        · have hii : ¬ (i : Int) < n := by omega
          have hfinal := HB1.out.trans (hsi.base.below.mono HB1.out.size)
          have HFIN := Lib.hid hfinal
          clear hsi hfinal HP
          go_wp2
          go_ret
          exact ⟨rfl, HFIN.out⟩
end Go.Proofs.Ytljhflkcikpoiaa
