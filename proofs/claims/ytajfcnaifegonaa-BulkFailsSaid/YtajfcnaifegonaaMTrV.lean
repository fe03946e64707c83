/- Trees in a program: all the bytes of a file, as the document reads them. -/
import Derived.Test.YtajfcnaifegonaaMBkC
import Derived.Test.YtajfcnaifegonaaMFlG
namespace Go.Proofs.Ytajfcnaifegonaa.Sl.Nd
open Go Go.RowKit Go.By
def ByFile (F : FS) (W : World) (g a o : Nat) (own : Own) (w : World) (z : Ending) (w' : World) : Prop :=
  ∃ p c, z = .returned (.slice p F.K.length c) ∧ Bytes w' (.slice p F.K.length c) F.K ∧ (∀ k, (Value.slice p F.K.length c).ownBlock = some k → w.heap.size ≤ k) ∧ Steps own own w w' ∧ Tf F W g a (o + 1) own w'
set_option maxRecDepth 100000 in
theorem bytes_tf {F : FS} {W w : World} {g a o : Nat} {own : Own} (h : Tf F W g a o own w) (hF : F.Ok) (ho : o < 4611686018427387904) :
    Calls Try.prog 12 #[.pointer (some ⟨a, 0, none⟩), .string F.s] w (ByFile F W g a o own w) := by
  have hl := hF.len
  have hsz : (F.sk o).size F.s = some F.K.length := oneF_size ..
  have hrd : (F.sk o).read F.s 0 (F.K.length : Nat) = (F.K, 0) := by
    have := oneF_read (s := F.s) (R := F.R) (ops := o) (lf := 0) (kp := F.kp) (ld := F.ld) (K := F.K) (K0 := F.K0) (os := F.os) (off := 0) (n := F.K.length) hF.name (by decide) (by omega) (by omega) (by omega)
    rw [List.drop_zero, List.take_length] at this
    exact this
  have hS := h.disk.size F.s
  rw [hsz] at hS
  have hR := h.disk.read (F.fine hF ho) F.s hF.size 0 (F.K.length : Nat)
  rw [hrd] at hR
  have HS := Lib.hid hS; have HR := Lib.hid hR
  have HEND : Hid (∀ p c w', w'.ownsRow w.heap.size 5 1 (.slice p F.K.length c) F.K.length (cellsOf F.K) → Steps own own w w' → Dsk W a (F.sk o).tick own w' → ByFile F W g a o own w (.returned (.slice p F.K.length c)) w') :=
    fun p c w' h1 h2 h3 => ⟨p, c, rfl, Bytes.of_owns h1 h.small (by unfold maxLen; omega), fun k hk => (h1.lt k hk).1, h2, ⟨h3, h.file.steps h2⟩⟩
  have hl9 : (F.K.length : Int) ≤ 1048576 := by omega
  obtain ⟨LK, hLK⟩ : ∃ x, x = F.K.length := ⟨_, rfl⟩
  rw [← hLK] at HR HS HEND hl9
  clear hS hR hsz hrd h hF hl hLK
  go_enter Try.func12, Try.ntmps12
  go_wp2_with fail
  refine HS.out.mono ?_
  rintro e w1 ⟨rfl, rfl⟩
  unfold sizeV
  go_wp2_with fail
  refine HR.out.mono ?_
  rintro e w2 ⟨p, c, rfl, h1, -, h2, h3⟩
  have HE := Lib.hid (HEND.out p c w2 (by first | exact h1 | (rw [hLK]; exact h1)) h2 h3)
  go_wp2
  go_ret
  exact HE.out
end Go.Proofs.Ytajfcnaifegonaa.Sl.Nd
