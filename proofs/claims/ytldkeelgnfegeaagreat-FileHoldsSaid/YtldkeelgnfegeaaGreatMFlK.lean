/- A disk with one file: SyncDir; a crash. -/
import Derived.Test.YtldkeelgnfegeaaGreatMFlJ
import Derived.Test.YtldkeelgnfegeaaGreatMDskBE

namespace Go.Proofs.YtldkeelgnfegeaaGreat
open Go Go.RowKit Go.By

theorem one_syncDir {W w : World} {a : Nat} {s : ByteArray} {R : Int} {ops lf : Nat} {K K0 : List Nat} {os : List ByteOp} {own : Own} (hD : Dsk W a (oneF s R ops lf [] [.create s 1] K K0 os) own w) (hl : lf ≠ 1) (hops : ops < 1000000 ∧ lf < 1000000) :
    Calls Tryz.prog 9 #[.pointer (some ⟨a, 0, none⟩)] w fun e w' => e = .returned (.int .i64 0) ∧ ∃ own', Steps own own' w w' ∧ Dsk W a (oneF s R (ops + 1) (lf - 1) [(s, 1)] [] K K0 os) own' w' := by
  obtain ⟨D, hd, hok, e⟩ := hD.out
  have hlaid : D.laid = [.create s 1] := congrArg Sk.laid e
  have hkept : D.kept = [] := congrArg Sk.kept e
  have hseen : D.seen = [(s, 1)] := congrArg Sk.seen e
  have hops' : D.ops = ops := congrArg Sk.ops e
  have hleft : D.left = lf := congrArg Sk.left e
  have hbeg := sk_begin D true
  have herr : (D.begin true).2 = 0 := by rw [hbeg.2]; exact err_ok (show D.sk.left ≠ 1 by rw [show D.sk.left = D.left from rfl, hleft]; exact hl) rfl
  refine (syncDir_any own a D w hd hok (by omega) (by omega) (by rw [hlaid]; exact Nat.lt_of_le_of_lt (Nat.le_refl 1) (by omega)) (by rw [hlaid]; intro o ho; rw [List.mem_singleton] at ho; subst ho; rfl)).mono ?_
  rintro e' w' hc
  rcases hc with ⟨_, _, h1, _⟩ | ⟨_, rfl, own', fm', hs, hd', hk⟩
  · exact absurd herr h1
  · have hsame := DiskA.begin_same D true
    have hok1 := DiskA.begin_ok hok true
    have hb1 := hbeg.1
    have hr : redoNames ((D.begin true).1.laid.take D.laid.length) (D.begin true).1.kept = [(s, 1)] := by
      rw [hsame.2.2.1, hsame.2.1, List.take_length, hlaid, hkept]; rfl
    refine ⟨rfl, own', hs, hD.of_steps hs ⟨_, hd', ?_, ?_⟩⟩
    · refine DiskA.settled_ok hok1 hk (fun j hj => ?_)
      rw [hr] at hj
      obtain rfl : j = 1 := by simpa using hj
      exact hok1.seenIn s 1 (by rw [hsame.1, hseen]; exact get_one s 1)
    · have h2 : ((D.begin true).1.settled D.laid.length fm').sk = { (D.begin true).1.sk with kept := redoNames ((D.begin true).1.laid.take D.laid.length) (D.begin true).1.kept, seen := redoNames ((D.begin true).1.laid.take D.laid.length) (D.begin true).1.kept, laid := [] } := rfl
      rw [h2, hr, hb1, e]; rfl

/-- The bytes that a crash leaves. -/
def leftK (bits : List Nat) (K0 : List Nat) (os : List ByteOp) : List Nat := (redoOps (drawBit bits) os 0 K0).1
theorem one_crash {W w : World} {a : Nat} {s : ByteArray} {R : Int} {ops lf : Nat} {K K0 : List Nat} {os : List ByteOp} {own : Own} (hD : Dsk W a (oneF s R ops lf [(s, 1)] [] K K0 os) own w) (hsz : s.size ≤ maxLen) {bv : Value} {bits : List Nat} (hb : Bytes w bv bits) (hbo : bits ≠ [] → ∀ k, bv.ownBlock = some k → own k = none)
    (hos : os.length ≤ 1000000) (hlong : ∀ j, (redoOps (drawBit bits) os j K0).1.length ≤ 1099511627776) :
    Calls Tryz.prog 12 #[.pointer (some ⟨a, 0, none⟩), bv] w fun e w' => e = .returned (.tuple #[]) ∧ ∃ own', Steps own own' w w' ∧ Dsk W a (oneF s R ops 0 [(s, 1)] [] (leftK bits K0 os) (leftK bits K0 os) []) own' w' := by
  obtain ⟨D, hd, hok, e⟩ := hD.out
  have hlaid : D.laid = [] := congrArg Sk.laid e
  have hkept : D.kept = [(s, 1)] := congrArg Sk.kept e
  have hseen : D.seen = [(s, 1)] := congrArg Sk.seen e
  have hcont : D.cont = fun n => if n = 1 then ⟨K, K0, os⟩ else noFile := congrArg Sk.cont e
  have hroom : D.room = R := congrArg Sk.room e
  have hops : D.ops = ops := congrArg Sk.ops e
  have hmade : D.made = 1 := congrArg Sk.made e
  have hr : redoNames (D.laid.take (firstOf bits D.laid.length)) D.kept = [(s, 1)] := by
    rw [hlaid, hkept, List.take_nil]; rfl
  refine (crash_any own a D bv bits w hd hok hb hbo (by rw [hlaid]; decide) (by rw [hlaid]; intro o ho; cases ho) ⟨fun n => ?_, fun n j => ?_⟩ (by rw [hr]; exact Nat.le_trans (Nat.le_refl 1) (by omega)) (by rw [hr]; intro p hp; rw [List.mem_singleton] at hp; subst hp; exact hsz)).mono ?_
  · rw [hcont]; dsimp only
    split
    · exact hos
    · exact Nat.zero_le _
  · rw [hcont]; dsimp only
    split
    · exact hlong j
    · exact Nat.zero_le _
  · rintro e' w' ⟨rfl, own', fm', hs, hd', hok', _⟩
    have hn : namesOf [(s, 1)] = [s] := by
      unfold namesOf sortedNames
      rw [show ([(s, 1)] : List (ByteArray × Nat)).map (fun p => p.1.data.toList) = [s.data.toList] from rfl, List.mergeSort_singleton]
      simp
    have hs2 : (({ D with left := 0 } : DiskA).settled (firstOf bits D.laid.length) fm').seen = [(s, 1)] := hr
    have hk2 : (({ D with left := 0 } : DiskA).settled (firstOf bits D.laid.length) fm').kept = [(s, 1)] := hr
    have hc : crashed bits D fm' = (crashFile bits ({ (({ D with left := 0 } : DiskA).settled (firstOf bits D.laid.length) fm') with used := 0 }, 0) s).1 := by
      unfold crashed
      dsimp only
      rw [hs2, hn]
      rfl
    have hg : (Mp.get (({ D with left := 0 } : DiskA).settled (firstOf bits D.laid.length) fm').seen s).getD 0 = 1 := by
      rw [hs2, get_one]; rfl
    refine ⟨rfl, own', hs, hD.of_steps hs ⟨_, hd', hok', ?_⟩⟩
    rw [hc]
    have hcf : (crashFile bits ({ (({ D with left := 0 } : DiskA).settled (firstOf bits D.laid.length) fm') with used := 0 }, 0) s).1.sk = ⟨D.room, (0 : Int) + ((redoOps (drawBit bits) (D.cont 1).laid 0 (D.cont 1).kept).1.length : Int), D.ops, 0, D.made, (({ D with left := 0 } : DiskA).settled (firstOf bits D.laid.length) fm').seen, (({ D with left := 0 } : DiskA).settled (firstOf bits D.laid.length) fm').kept, [], fun k => if k = 1 then ⟨(redoOps (drawBit bits) (D.cont 1).laid 0 (D.cont 1).kept).1, (redoOps (drawBit bits) (D.cont 1).laid 0 (D.cont 1).kept).1, []⟩ else D.cont k⟩ := by
      unfold crashFile
      dsimp only
      rw [hg]
      rfl
    rw [hcf, hs2, hk2, hroom, hops, hmade, hcont]
    unfold oneF leftK
    dsimp only
    rw [if_pos rfl, Int.zero_add]
    refine congrArg (Sk.mk _ _ _ _ _ _ _ _) ?_
    funext n
    by_cases h1 : n = 1
    · rw [if_pos h1, if_pos h1]
    · rw [if_neg h1, if_neg h1, if_neg h1]
end Go.Proofs.YtldkeelgnfegeaaGreat
