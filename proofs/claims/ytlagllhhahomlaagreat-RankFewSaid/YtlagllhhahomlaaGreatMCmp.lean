/- bytes.Compare, bytes.Equal. -/
import Derived.Test.YtlagllhhahomlaaGreatMGen
import Derived.Test.YtlagllhhahomlaaGreatMHdP
import Derived.Lib.Bytealg
namespace Go.By
open Go Go.RowKit
def u8s (l : List Nat) : List UInt8 := l.map UInt8.ofNat
theorem u8s_nats {l : List Nat} (h : ∀ c ∈ l, c < 256) : (u8s l).map UInt8.toNat = l := by
  unfold u8s
  rw [List.map_map]
  conv => rhs; rw [← List.map_id l]
  apply List.map_congr_left
  intro c hc
  have := h c hc
  simp
  omega
def cmpN (l m : List Nat) : Int := Lib.compareBytes (u8s l) (u8s m)
theorem cmpB_less : ∀ (x y : List UInt8), decide (Lib.compareBytes x y < 0) = Op.bytesLess x y
  | [], [] => rfl
  | [], _ :: _ => rfl
  | _ :: _, [] => rfl
  | a :: x, b :: y => by
    have ih := cmpB_less x y
    rw [Op.bytesLess, Lib.compareBytes, ← ih]
    by_cases h1 : a < b
    · simp [h1]
    · by_cases h2 : b < a
      · have h3 : (a == b) = false := by
          rw [beq_eq_false_iff_ne]
          intro e
          subst e
          exact h1 h2
        simp [h1, h2, h3]
      · have h3 : a = b := by
          apply UInt8.toNat_inj.1
          rw [UInt8.lt_iff_toNat_lt] at h1 h2
          omega
        simp [h3]
theorem cmpN_less {l m : List Nat} (hl : ∀ c ∈ l, c < 256) (hm : ∀ c ∈ m, c < 256) : decide (cmpN l m < 0) = lessN l m := by
  unfold cmpN
  rw [cmpB_less, less_nats, u8s_nats hl, u8s_nats hm]
theorem load_list {P : Program} {w : World} {b : Nat} : ∀ {l : List Nat} {off : Nat} {acc : ByteArray}, (∀ i, i < l.length → w.cell? ⟨b, off + i, none⟩ = some (.int .u8 (atB l i : Nat))) →
    (Extern.Bytes.loadBytes ⟨b, off, none⟩ l.length acc).run P w = .ok ⟨acc.data ++ (u8s l).toArray⟩ w
  | [], off, acc, _ => by
    simp [Extern.Bytes.loadBytes, u8s]
  | c :: l, off, acc, h => by
    have h0 := h 0 (by simp)
    rw [Nat.add_zero] at h0
    have ih := load_list (P := P) (w := w) (b := b) (l := l) (off := off + 1) (acc := acc.push (UInt8.ofNat c)) (fun i hi => by
      have := h (i + 1) (by simp; omega)
      rw [show off + 1 + i = off + (i + 1) by omega, this]
      simp [atB])
    rw [List.length_cons]
    unfold Extern.Bytes.loadBytes
    rw [Sem.run_bind, run_load]
    simp only [h0, Result.andThen_ok, Addr.add_lit]
    have e : (atB (c :: l) 0) = c := by simp [atB]
    rw [e]
    have e2 : (Int.toNat (c : Int)).toUInt8 = UInt8.ofNat c := by rw [Int.toNat_natCast]
    rw [e2, ih]
    congr 1
    simp [u8s, ByteArray.push]
theorem bytesOf_run {P : Program} {w : World} {v : Value} {l : List Nat} (h : Bytes w v l) : (Extern.Bytes.bytesOf v).run P w = .ok ⟨(u8s l).toArray⟩ w := by
  rcases h.out with ⟨rfl, rfl⟩ | ⟨a, rfl, rfl⟩ | ⟨b, off, cap, rfl, _, hc⟩
  · rfl
  · rfl
  · show (Extern.Bytes.loadBytes ⟨b, off, none⟩ l.length .empty).run P w = _
    rw [load_list hc]
    congr 2
    exact Array.empty_append
theorem compare_run {P : Program} {w : World} {v u : Value} {l m : List Nat} (h : Bytes w v l) (k : Bytes w u m) : (Extern.BytealgCompare.compare #[v, u]).run P w = .ok (.int .i64 (cmpN l m)) w := by
  change Sem.run P (do pure (goInt (Extern.BytealgCompare.cmp (← Extern.Bytes.bytesOf v) (← Extern.Bytes.bytesOf u)))) w = _
  simp only [Sem.run_bind, bytesOf_run h, bytesOf_run k, Sem.run_pure, Result.andThen]
  rw [Lib.cmp_eq]
  rfl
end Go.By
namespace Go.Proofs.YtlagllhhahomlaaGreat.Sl.Nd
open Go Go.RowKit Go.By
set_option maxRecDepth 100000 in
theorem compare_any (v u : Value) (l m : List Nat) (w : World) (hv : Bytes w v l) (hu : Bytes w u m) :
    Calls Tryz.prog 81 #[v, u] w fun e w' => e = .returned (.int .i64 (cmpN l m)) ∧ w' = w := by
  have hx := run_callFunc_extern Tryz.func109 (by kernel_rfl) (by kernel_rfl) (by kernel_rfl) (show Extern.find Tryz.f109 = some Extern.BytealgCompare.compare by kernel_rfl) #[v, u] w
  rw [compare_run hv hu] at hx
  clear hv hu
  generalize cmpN l m = x at *
  go_enter Tryz.func81, Tryz.ntmps81
  go_wp2
  go_ret
  exact ⟨rfl, rfl⟩
set_option maxRecDepth 100000 in
theorem equal_any (v u : Value) (l m : List Nat) (w : World) (hv : Bytes w v l) (hu : Bytes w u m) :
    Calls Tryz.prog 134 #[v, u] w fun e w' => e = .returned (.bool (decide (l = m))) ∧ w' = w := by
  have h1 := hv.toString (P := Tryz.prog) byT (d := 9) (by kernel_rfl)
  have h2 := hu.toString (P := Tryz.prog) byT (d := 9) (by kernel_rfl)
  have E : Hid (((strOf l).toList == (strOf m).toList) = decide (l = m)) := by
    unfold Hid
    rw [eq_str, natsOf_strOf hv.small, natsOf_strOf hu.small]
  clear hv hu
  go_enter Tryz.func134, Tryz.ntmps134
  go_wp2
  go_ret
  exact ⟨by rw [← E.out]; rfl, rfl⟩
end Go.Proofs.YtlagllhhahomlaaGreat.Sl.Nd
