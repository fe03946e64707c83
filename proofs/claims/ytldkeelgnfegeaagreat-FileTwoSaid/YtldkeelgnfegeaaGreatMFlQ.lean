/- A file gets another name; the names of a disk. -/
import Derived.Test.YtldkeelgnfegeaaGreatMFlO
import Derived.Test.YtldkeelgnfegeaaGreatMDskBH
import Derived.Test.YtldkeelgnfegeaaGreatMDskBB

namespace Go.Proofs.YtldkeelgnfegeaaGreat
open Go Go.RowKit Go.By

theorem Dsk.rename {W w : World} {a : Nat} {S : Sk} {own : Own} (h : Dsk W a S own w) (hF : S.Fine) {s t : ByteArray} (hs : s.size ≤ maxLen) (ht : t.size ≤ maxLen) (hmay : mayName s = true) (hmay2 : mayName t = true) (hl : S.left ≠ 1) (hne : (s.toList == t.toList) = false) {n : Nat} (hg : Mp.get S.seen s = some n) (hg2 : Mp.get S.seen t = none) :
    Calls Tryz.prog 38 #[.pointer (some ⟨a, 0, none⟩), .string s, .string t] w fun e w' => e = .returned (.int .i64 0) ∧ ∃ own', Steps own own' w w' ∧ Dsk W a { S.tick with seen := Mp.put (Mp.del S.seen s) t n, laid := S.laid ++ [.rename s t] } own' w' := by
  obtain ⟨D, hd, hok, rfl⟩ := h.out
  refine (rename_any own a n D s t w hd hok hF.ops hF.left hs ht hF.laid hmay hmay2 hl hne hg hg2).mono ?_
  rintro e w' ⟨rfl, own', hst, hd'⟩
  have hb := (sk_begin D true).1
  have hok1 := DiskA.begin_ok hok true
  have hsame := D.begin_same true
  refine ⟨rfl, own', hst, h.of_steps hst ⟨_, hd', ⟨fun x m hx => ?_, hok1.keptIn, fun x m hx => ?_, hok1.made⟩, ?_⟩⟩
  · have hx' : Mp.get (Mp.put (Mp.del D.seen s) t n) x = some m := hx
    show (Mp.get (D.begin true).1.fm m).isSome = true
    rw [hsame.2.2.2.1]
    rw [Mp.get_put] at hx'
    split at hx'
    · cases hx'; exact hok.seenIn s n hg
    · have hnd : (D.seen.map (·.1)).Nodup := by
        obtain ⟨ms, mk, mf, lv, _, h2⟩ := hd.out
        rcases h2.seen with ⟨_, h0⟩ | ⟨b, _, _, hm⟩
        · rw [h0]; exact List.nodup_nil
        · exact hm.2
      rw [Mp.get_del D.seen hnd] at hx'
      split at hx'
      · cases hx'
      · exact hok.seenIn x m hx'
  · have hx' : NameOp.create x m ∈ D.laid ++ [.rename s t] := hx
    show (Mp.get (D.begin true).1.fm m).isSome = true
    rw [hsame.2.2.2.1]
    rcases List.mem_append.1 hx' with h1 | h1
    · exact hok.laidIn x m h1
    · rw [List.mem_singleton] at h1; cases h1
  · show (⟨(D.begin true).1.room, (D.begin true).1.used, (D.begin true).1.ops, (D.begin true).1.left, (D.begin true).1.made, Mp.put (Mp.del D.seen s) t n, (D.begin true).1.kept, D.laid ++ [.rename s t], (D.begin true).1.cont⟩ : Sk) = _
    have e1 : ∀ (P Q : Sk), P = Q → (⟨P.room, P.used, P.ops, P.left, P.made, Mp.put (Mp.del D.seen s) t n, P.kept, D.laid ++ [.rename s t], P.cont⟩ : Sk) = ⟨Q.room, Q.used, Q.ops, Q.left, Q.made, Mp.put (Mp.del D.seen s) t n, Q.kept, D.laid ++ [.rename s t], Q.cont⟩ := fun P Q h => by rw [h]
    exact e1 _ _ hb

set_option maxRecDepth 100000 in
theorem fileRenamed_any {W w : World} {g a : Nat} {s t : ByteArray} {E : Nat} {S : Sk} {own : Own} (hD : Dsk W a S own w) (h : Fil W g a s E own w) (hF : S.Fine) (hs : s.size ≤ maxLen) (ht : t.size ≤ maxLen) (hmay : mayName s = true) (hmay2 : mayName t = true) (hl : S.left ≠ 1) (hne : (s.toList == t.toList) = false) {n : Nat} (hg : Mp.get S.seen s = some n) (hg2 : Mp.get S.seen t = none) :
    Calls Tryz.prog 16 #[.pointer (some ⟨g, 0, none⟩), .string t] w fun e w' => e = .returned (.int .i64 0) ∧ ∃ own', Moves g own own' w w' ∧ Dsk W a { S.tick with seen := Mp.put (Mp.del S.seen s) t n, laid := S.laid ++ [.rename s t] } own' w' ∧ Fil W g a t E own' w' := by
  have HN := Lib.hid (isNone_any h)
  obtain ⟨c0, c1, _⟩ := h.at_
  have hrn : ∀ w0 : World, w0.heap = w.heap → w0.os = w.os → w0.tape = w.tape → w0.output = w.output → Calls Tryz.prog 38 #[.pointer (some ⟨a, 0, none⟩), .string s, .string t] w0 fun e w' => e = .returned (.int .i64 0) ∧
      w'.cell? ⟨g, 0, none⟩ = some (.pointer (some ⟨a, 0, none⟩)) ∧ w'.cell? ⟨g, 1, none⟩ = some (.string s) ∧ ∃ own', Steps own own' w w' ∧ Dsk W a { S.tick with seen := Mp.put (Mp.del S.seen s) t n, laid := S.laid ++ [.rename s t] } own' w' ∧ Fil W g a s E own' w' := by
    intro w0 e1 e2 e3 e4
    have hb0 := below_same e1 e2 e3 e4
    refine ((hD.stay hb0).rename hF hs ht hmay hmay2 hl hne hg hg2).mono ?_
    rintro e w' ⟨rfl, own', hst, hd⟩
    have hf' := (h.stay hb0).steps hst
    exact ⟨rfl, hf'.at_.1, hf'.at_.2.1, own', (Steps.of_below hb0).trans hst, hd, hf'⟩
  have HRN := Lib.hid hrn
  generalize ({ S.tick with seen := Mp.put (Mp.del S.seen s) t n, laid := S.laid ++ [.rename s t] } : Sk) = S2 at *
  clear hD h hF hrn
  go_enter Tryz.func16, Tryz.ntmps16
  go_wp2_with (go_at_call 28; refine HN.out.mono ?_; rintro e w1 ⟨rfl, rfl⟩)
  go_region_held3 (fun w' => w'.cell? ⟨g, 0, none⟩ = some (.pointer (some ⟨a, 0, none⟩)) ∧ w'.cell? ⟨g, 1, none⟩ = some (.string s)) (go_keep)
    (first | (go_at_call 38; refine (HRN.out _ (by rfl) (by rfl) (by rfl) (by rfl)).mono ?_; rintro e w2 ⟨rfl, d0, d1, hfin⟩))
  obtain ⟨own2, hst, hd, hf⟩ := hfin
  have fz := free_of hf.cells 1
  have HFIN : Hid (Moves g own own2 w (w2.setCell ⟨g, 1, none⟩ (.string t)) ∧ Dsk W a S2 own2 (w2.setCell ⟨g, 1, none⟩ (.string t)) ∧ Fil W g a t E own2 (w2.setCell ⟨g, 1, none⟩ (.string t))) :=
    ⟨(hst.moves g).trans (Moves.set g own2 w2 1 _), hd.set hf.free hf.far 1 _, (set_heap hf.cells 1 _).1, hf.free, hf.far⟩
  clear hst hd hf HRN
  go_wp2
  go_ret
  exact ⟨rfl, own2, HFIN.out⟩

theorem Dsk.list {W w : World} {a : Nat} {S : Sk} {own : Own} (h : Dsk W a S own w) (hs : ∀ p ∈ S.seen, p.1.size ≤ maxLen) (hm : S.seen.length ≤ 1000000) :
    Calls Tryz.prog 17 #[.pointer (some ⟨a, 0, none⟩)] w fun e w' => ∃ v, e = .returned v ∧ w'.ownsRow w.heap.size 9 1 v S.seen.length ((sortedNames S.seen).map encStr) ∧ Below w.heap.size w w' := by
  obtain ⟨D, hd, hok, rfl⟩ := h.out
  exact (list_any own a D w hd hs hm).mono fun e w' ⟨v, h1, h2, _, h3⟩ => ⟨v, h1, h2, h3⟩
end Go.Proofs.YtldkeelgnfegeaaGreat
