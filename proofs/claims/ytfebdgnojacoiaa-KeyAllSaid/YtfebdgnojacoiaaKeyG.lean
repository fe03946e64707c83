/- Keys: has it begun? -/
import Derived.Test.YtfebdgnojacoiaaKeyF
import Derived.Lib.SlBytesConst
namespace Go.Proofs.Ytfebdgnojacoiaa
open Go Go.RowKit Go.By

theorem pairK_small {s : ByteArray} {n : Int} : ∀ c ∈ pairK (natsOf s) n, c < 256 := by
  intro c hc
  unfold pairK at hc
  split at hc
  · exact pairOf_small (natsOf_small s) _ c hc
  · cases hc
theorem letK_small {s : ByteArray} {k : Nat} (hk : k < 256) : ∀ c ∈ letK k (natsOf s), c < 256 := by
  intro c hc
  unfold letK at hc
  split at hc
  · rcases List.mem_cons.1 hc with rfl | hc
    · exact hk
    · exact natsOf_small s c hc
  · cases hc
theorem seqK_small {n : Int} : ∀ c ∈ seqK n, c < 256 := by
  intro c hc
  unfold seqK at hc
  split at hc
  · exact highOf_small _ _ c hc
  · cases hc

theorem natsOf_data (s : ByteArray) : natsOf s = s.data.toList.map UInt8.toNat := by
  unfold natsOf
  rw [Lib.toList_data]

/-- A key that is told, as one speaks of it. -/
theorem Tells.lit {f : FuncId} {args : Array Value} {w : World} {l m : List Nat} (n : Nat) (hn : m.length = n) (h : Calls Try.prog f args w (Tells w l)) (e : l = m) (hs : ∀ c ∈ m, c < 256) :
    Calls Try.prog f args w fun e w' => ∃ p c, e = .returned (.slice p n c) ∧ Bytes w' (.slice p n c) m ∧ (convert 22 9 (.slice p n c)).run Try.prog w' = .ok (.string (strOf m)) w' ∧ Below w.heap.size w w' := by
  subst e hn
  refine h.mono ?_
  rintro e w' ⟨v', rfl, ho, hb⟩
  obtain ⟨p, c, rfl⟩ := ho.shape
  have hy := ho.bytes hs
  exact ⟨p, c, rfl, hy, hy.toString byT (by kernel_rfl), hb⟩

set_option maxRecDepth 100000 in
set_option maxHeartbeats 1600000 in
theorem begun_any (w : World) : Calls Try.prog 8 #[] w fun e w' => e = .returned (.bool true) ∧ Below w.heap.size w w' := by
  have hcv := fun (w : World) (C : Array Value) (n c : Nat) => Lib.run_convert_bytes_const (P := Try.prog) w 22 5 C n c byT.slice byT.elem
  go_enter Try.func8, Try.ntmps8
  go_wp2_with fail
  refine (Tells.lit 10 rfl (m := [97, 0, 0, 0, 0, 0, 0, 0, 0, 1]) (stream_any ⟨#[97]⟩ 1 w (by decide) (by omega)) (by rw [natsOf_data]; decide) (by decide)).mono ?_
  rintro e w1 ⟨p1, c1, rfl, hy1, _, hb1⟩
  have HB1 := Lib.hid hb1
  have HT1 := Lib.hid (takeStream_any _ _ _ hy1)
  have HP1 : Hid (pkV [97, 0, 0, 0, 0, 0, 0, 0, 0, 1] = .tuple #[.string ⟨#[97]⟩, .int .i64 1, .bool true]) := by unfold Hid; rw [pkV_yes (by decide)]; rfl
  clear hy1 hb1
  go_wp2_with fail
  refine HT1.out.mono ?_
  rintro e w2 ⟨rfl, hb2⟩
  have HB2 : Hid (Below w.heap.size w w2) := HB1.out.trans (hb2.mono HB1.out.size)
  rw [HP1.out]
  clear hb2 HB1 HT1 HP1
  go_wp2_with fail
  refine (Tells.lit 10 rfl (m := [98, 0, 0, 0, 0, 0, 0, 0, 0, 2]) (type_any ⟨#[98]⟩ 2 w2 (by decide) (by omega)) (by rw [natsOf_data]; decide) (by decide)).mono ?_
  rintro e w3 ⟨p3, c3, rfl, hy3, _, hb3⟩
  have HB3 : Hid (Below w.heap.size w w3) := HB2.out.trans (hb3.mono HB2.out.size)
  have HT3 := Lib.hid (takeType_any _ _ _ hy3)
  have HP3 : Hid (pkV [98, 0, 0, 0, 0, 0, 0, 0, 0, 2] = .tuple #[.string ⟨#[98]⟩, .int .i64 2, .bool true]) := by unfold Hid; rw [pkV_yes (by decide)]; rfl
  clear hy3 hb3 HB2
  go_wp2_with fail
  refine HT3.out.mono ?_
  rintro e w4 ⟨rfl, hb4⟩
  have HB4 : Hid (Below w.heap.size w w4) := HB3.out.trans (hb4.mono HB3.out.size)
  rw [HP3.out]
  clear hb4 HB3 HT3 HP3
  go_wp2_with fail
  refine (mayName_any _ w4 (by decide)).mono ?_
  rintro e w5 ⟨rfl, rfl⟩
  rw [show mayNm (natsOf ⟨#[97]⟩) = true by rw [natsOf_data]; decide]
  go_wp2_with fail
  refine (mayName_any _ w4 (by decide)).mono ?_
  rintro e w5 ⟨rfl, rfl⟩
  rw [show mayNm (natsOf ⟨#[]⟩) = false by rw [natsOf_data]; decide]
  go_wp2_with fail
  refine (Tells.lit 8 rfl (m := [0, 0, 0, 0, 0, 0, 0, 1]) (seq_any 1 w4 (by omega)) (by decide) (by decide)).mono ?_
  rintro e w5 ⟨p5, c5, rfl, _, hs5, hb5⟩
  have HB5 : Hid (Below w.heap.size w w5) := HB4.out.trans (hb5.mono HB4.out.size)
  rw [show strOf [0, 0, 0, 0, 0, 0, 0, 1] = ⟨#[0, 0, 0, 0, 0, 0, 0, 1]⟩ from rfl] at hs5
  clear hb5 HB4
  go_wp2_with fail
  clear hs5
  refine (Tells.lit 2 rfl (m := [104, 97]) (head_any ⟨#[97]⟩ w5 (by decide)) (by rw [natsOf_data]; decide) (by decide)).mono ?_
  rintro e w6 ⟨p6, c6, rfl, _, hs6, hb6⟩
  have HB6 : Hid (Below w.heap.size w w6) := HB5.out.trans (hb6.mono HB5.out.size)
  rw [show strOf [104, 97] = ⟨#[104, 97]⟩ from rfl] at hs6
  clear hb6 HB5
  go_wp2_with fail
  clear hs6
  refine (Tells.lit 2 rfl (m := [105, 97]) (id_any ⟨#[97]⟩ w6 (by decide)) (by rw [natsOf_data]; decide) (by decide)).mono ?_
  rintro e w7 ⟨p7, c7, rfl, _, hs7, hb7⟩
  have HB7 : Hid (Below w.heap.size w w7) := HB6.out.trans (hb7.mono HB6.out.size)
  rw [show strOf [105, 97] = ⟨#[105, 97]⟩ from rfl] at hs7
  clear hb7 HB6
  go_wp2_with fail
  clear hs7
  refine (Tells.lit 2 rfl (m := [115, 97]) (snap_any ⟨#[97]⟩ w7 (by decide)) (by rw [natsOf_data]; decide) (by decide)).mono ?_
  rintro e w8 ⟨p8, c8, rfl, _, hs8, hb8⟩
  have HB8 : Hid (Below w.heap.size w w8) := HB7.out.trans (hb8.mono HB7.out.size)
  rw [show strOf [115, 97] = ⟨#[115, 97]⟩ from rfl] at hs8
  clear hb8 HB7
  go_wp2_with fail
  clear hs8
  refine (Tells.lit 2 rfl (m := [112, 97]) (point_any ⟨#[97]⟩ w8 (by decide)) (by rw [natsOf_data]; decide) (by decide)).mono ?_
  rintro e w9 ⟨p9, c9, rfl, _, hs9, hb9⟩
  have HB9 : Hid (Below w.heap.size w w9) := HB8.out.trans (hb9.mono HB8.out.size)
  rw [show strOf [112, 97] = ⟨#[112, 97]⟩ from rfl] at hs9
  clear hb9 HB8
  go_wp2_with fail
  clear hs9
  refine (Tells.lit 1 rfl (m := [98]) (after_any _ [97] _ (Bytes.lit _ rfl rfl (by decide) (by decide)) (by decide)) (by decide) (by decide)).mono ?_
  rintro e w10 ⟨p10, c10, rfl, _, hs10, hb10⟩
  have hz9 := fun o => HB9.out.alloc HB9.out.size o
  have HB10 : Hid (Below w.heap.size w w10) := (hz9 _).trans (hb10.mono (hz9 _).size)
  rw [show strOf [98] = ⟨#[98]⟩ from rfl] at hs10
  clear hb10 HB9 hz9
  go_wp2
  go_ret
  exact ⟨rfl, HB10.out⟩
end Go.Proofs.Ytfebdgnojacoiaa

