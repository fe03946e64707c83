/- The disk: names that last: settle, as lists; SyncDir. -/
import Derived.Test.YtobhhedggppneaaDskY
namespace Go.Proofs.Ytobhhedggppneaa
open Go Go.RowKit Go.By

theorem mem_put {α β : Type} [DecidableEq α] {m : List (α × β)} {a : α} {v : β} {p : α × β} (h : p ∈ Mp.put m a v) : p = (a, v) ∨ p ∈ m := by
  induction m with
  | nil => simp [Mp.put] at h; exact .inl h
  | cons q m ih =>
    simp only [Mp.put] at h
    split at h
    · rcases List.mem_cons.1 h with h | h
      · exact .inl h
      · exact .inr (List.mem_cons_of_mem _ h)
    · rcases List.mem_cons.1 h with h | h
      · exact .inr (by rw [h]; exact List.mem_cons_self)
      · rcases ih h with h | h
        · exact .inl h
        · exact .inr (List.mem_cons_of_mem _ h)
theorem mem_del {α β : Type} [DecidableEq α] {m : List (α × β)} {a : α} {p : α × β} (h : p ∈ Mp.del m a) : p ∈ m := by
  induction m with
  | nil => simp [Mp.del] at h
  | cons q m ih =>
    simp only [Mp.del] at h
    split at h
    · exact List.mem_cons_of_mem _ h
    · rcases List.mem_cons.1 h with h | h
      · rw [h]; exact List.mem_cons_self
      · exact List.mem_cons_of_mem _ (ih h)
theorem get_of_mem {α β : Type} [DecidableEq α] {m : List (α × β)} (hn : (m.map (·.1)).Nodup) {p : α × β} (h : p ∈ m) : Mp.get m p.1 = some p.2 := by
  induction m with
  | nil => cases h
  | cons q m ih =>
    simp only [List.map_cons, List.nodup_cons] at hn
    simp only [Mp.get]
    rcases List.mem_cons.1 h with h | h
    · subst h; rw [if_pos rfl]
    · rw [if_neg (by intro e; exact hn.1 (by rw [e]; exact List.mem_map_of_mem h))]
      exact ih hn.2 h
theorem mem_of_get {α β : Type} [DecidableEq α] {m : List (α × β)} {a : α} {v : β} (h : Mp.get m a = some v) : (a, v) ∈ m := by
  induction m with
  | nil => cases h
  | cons q m ih =>
    simp only [Mp.get] at h
    split at h
    · rename_i e
      cases h; rw [← e]; exact List.mem_cons_self
    · exact List.mem_cons_of_mem _ (ih h)

theorem mem_redo {l : List NameOp} (ht : ∀ o ∈ l, o.told = true) : ∀ {m : List (ByteArray × Nat)} {p : ByteArray × Nat}, p ∈ redoNames l m → p ∈ m ∨ NameOp.create p.1 p.2 ∈ l := by
  induction l with
  | nil => intro m p h; exact .inl h
  | cons o l ih =>
    intro m p h
    have hh : p ∈ redoNames l (redoName o m) := h
    rcases ih (fun o ho => ht o (List.mem_cons_of_mem _ ho)) hh with h | h
    · cases o with
      | create s n =>
        rcases mem_put h with h | h
        · subst h; exact .inr List.mem_cons_self
        · exact .inl h
      | remove s => exact .inl (mem_del h)
      | rename s t => have := ht _ List.mem_cons_self; cases this
    · exact .inr (List.mem_cons_of_mem _ h)
theorem nodup_redo {l : List NameOp} : ∀ {m : List (ByteArray × Nat)}, (m.map (·.1)).Nodup → ((redoNames l m).map (·.1)).Nodup := by
  induction l with
  | nil => intro m h; exact h
  | cons o l ih =>
    intro m h
    refine ih (m := redoName o m) ?_
    cases o with
    | create s n => exact Mp.nodup_put h s n
    | remove s => exact Mp.nodup_del h s
    | rename s t => exact Mp.nodup_put (Mp.nodup_del h s) t _

theorem MapV.nodup {α β : Type} [DecidableEq α] {w : World} {own : Own} {r : Role} {v : Value} {mk : α → Value} {mv : β → Value} {m : List (α × β)} (h : MapV w own r v mk mv m) : (m.map (·.1)).Nodup := by
  rcases h with ⟨_, rfl⟩ | ⟨_, _, _, hm⟩
  · simp
  · exact hm.nodup

/-- The numbers that names lead to have files. -/
theorem redo_in {D : DiskA} (hok : D.Ok) (hn : (D.kept.map (·.1)).Nodup) (ht : ∀ o ∈ D.laid, o.told = true) (n : Nat) : ∀ j ∈ (redoNames (D.laid.take n) D.kept).map (·.2), (Mp.get D.fm j).isSome = true := by
  intro j hj
  obtain ⟨p, hp, rfl⟩ := List.mem_map.1 hj
  rcases mem_redo (fun o ho => ht o (List.mem_of_mem_take ho)) hp with h | h
  · exact hok.keptIn p.1 p.2 (get_of_mem hn h)
  · exact hok.laidIn p.1 p.2 (List.mem_of_mem_take h)

theorem DiskA.settled_ok {D : DiskA} (hok : D.Ok) {n : Nat} {fm' : List (Nat × Nat)} (hk : Kept D.fm (redoNames (D.laid.take n) D.kept) fm') (hin : ∀ j ∈ (redoNames (D.laid.take n) D.kept).map (·.2), (Mp.get D.fm j).isSome = true) : (D.settled n fm').Ok where
  seenIn := fun s j h => by
    have hm : j ∈ (redoNames (D.laid.take n) D.kept).map (·.2) := List.mem_map.2 ⟨(s, j), mem_of_get h, rfl⟩
    show (Mp.get fm' j).isSome = true
    rw [hk j, if_pos hm]; exact hin j hm
  keptIn := fun s j h => by
    have hm : j ∈ (redoNames (D.laid.take n) D.kept).map (·.2) := List.mem_map.2 ⟨(s, j), mem_of_get h, rfl⟩
    show (Mp.get fm' j).isSome = true
    rw [hk j, if_pos hm]; exact hin j hm
  laidIn := fun s j h => by cases h
  made := fun j h => by
    have h' : (Mp.get fm' j).isSome = true := h
    rw [hk j] at h'
    split at h'
    · exact hok.made j h'
    · cases h'

def Settled (own : Own) (a n : Nat) (D : DiskA) (w w' : World) : Prop :=
  ∃ own' fm', Steps own own' w w' ∧ DiskIs w' own' a (D.settled n fm') ∧ Kept D.fm (redoNames (D.laid.take n) D.kept) fm'

theorem settle_any (own : Own) (a n : Nat) (D : DiskA) (w : World) (h : DiskIs w own a D) (hok : D.Ok) (hn : n ≤ D.laid.length) (hlen : D.laid.length < 1000000) (ht : ∀ o ∈ D.laid, o.told = true) :
    Calls Try.prog 35 #[.pointer (some ⟨a, 0, none⟩), .int .i64 n] w fun e w' => e = .returned (.tuple #[]) ∧ Settled own a n D w w' := by
  obtain ⟨ms, mk, mf, lv, h1, h2⟩ := h.out
  have hlt : a < w.heap.size := h.here a _ h.role
  rcases h2.kept with ⟨rfl, hk0⟩ | ⟨bk, rfl, hrk, hmk⟩
  · have hb := h2.bare rfl
    have hn0 : n = 0 := by rw [hb.2.2] at hn; simpa using hn
    subst hn0
    refine (settle_nil own a D w h h1 h2).mono ?_
    rintro e w' ⟨rfl, z, kn, ka, q1, q2, q3, kb⟩
    have he : redoNames (D.laid.take 0) D.kept = [] := by rw [List.take_zero, hk0]; rfl
    refine ⟨rfl, own.add w.heap.size .files, [], ⟨q1, q2, q3, by omega, fun k hk hne => kb k hk ?_, fun k hk => Own.add_lt hk⟩, ⟨⟨.map none, .map none, .map (some w.heap.size), .slice none 0 0, ka, ?_⟩, ?_, fun k hk => ?_, fun k r hk => ?_⟩, ?_⟩
    · rintro rfl; rw [h.role] at hne; simp at hne
    · refine ⟨.inl ⟨rfl, he⟩, .inl ⟨rfl, he⟩, World.ownsRow_nil _ _ _ _, fun k hk => (by cases hk), .inr ⟨w.heap.size, rfl, Own.add_self _ _ _, ⟨⟨#[], 0, kn, rfl, by simp, by simp⟩, by simp [DiskA.settled]⟩⟩, fun j fb hj => (by cases hj), fun _ => ⟨he, rfl, rfl⟩, fun hne => absurd rfl hne, fun _ => rfl⟩
    · exact Own.add_old h.here (Nat.le_refl _) h.role
    · rcases Own.add_some hk with ⟨_, hh⟩ | hh
      · cases hh
      · exact h.only k hh
    · rcases Own.add_some hk with ⟨hh, _⟩ | hh
      · omega
      · have := h.here k r hh; omega
    · intro j; rw [he]; rfl
  · have hin := redo_in hok h2.kept.nodup ht n
    refine (settle_some own a n D w h h1 h2 hn hlen ht hin).mono ?_
    rintro e w' ⟨rfl, ⟨fm', bs, bn, hk, i1, i2, i3, hbs, hbn, hne, ha⟩, q1, q2, q3, z, kb⟩
    have hka : bk ≠ a := by rintro rfl; rw [h.role] at hrk; cases hrk
    let o1 := own.add bs .seen
    let o2 := o1.add bn .files
    have r0 : ∀ k r, own k = some r → o2 k = some r := fun k r hkr => by
      have := h.here k r hkr
      show (o1.add bn .files) k = _
      unfold Own.add
      rw [if_neg (by omega)]
      show (own.add bs .seen) k = _
      unfold Own.add
      rw [if_neg (by omega)]; exact hkr
    have rs : o2 bs = some .seen := by
      show (o1.add bn .files) bs = _
      unfold Own.add
      rw [if_neg hne]
      exact Own.add_self _ _ _
    have rn : o2 bn = some .files := Own.add_self _ _ _
    have stay : Stay own o2 (fun r => r ≠ .disk ∧ r ≠ .kept) w w' := ⟨r0, fun k r hkr hr => kb k (h.here k r hkr) (by rintro rfl; rw [h.role] at hkr; cases hkr; exact hr.1 rfl) (by rintro rfl; rw [hrk] at hkr; cases hkr; exact hr.2 rfl)⟩
    refine ⟨rfl, o2, fm', ⟨q1, q2, q3, z, fun k hkl hor => kb k hkl ?_ ?_, fun k hkl => ?_⟩, ⟨⟨_, _, _, _, ha, ?_⟩, r0 a _ h.role, fun k hkr => ?_, fun k r hkr => ?_⟩, hk⟩
    · rintro rfl; rw [h.role] at hor; simp at hor
    · rintro rfl; rw [hrk] at hor; simp at hor
    · show (o1.add bn .files) k = _
      unfold Own.add
      rw [if_neg (by omega)]
      show (own.add bs .seen) k = _
      unfold Own.add
      rw [if_neg (by omega)]
    · refine ⟨.inr ⟨bs, rfl, rs, i2⟩, .inr ⟨bk, rfl, r0 bk _ hrk, i1⟩, World.ownsRow_nil _ _ _ _, fun k hk => (by cases hk), .inr ⟨bn, rfl, rn, i3⟩, fun j fb hj => ?_, fun hh => (by cases hh), fun _ => ⟨by simp, by simp⟩, fun _ => rfl⟩
      have hj' : Mp.get fm' j = some fb := hj
      rw [hk j] at hj'
      split at hj'
      · exact (h2.each j fb hj').stay stay (by simp) (by simp) (by simp) (by simp) (by simp)
      · cases hj'
    · rcases Own.add_some hkr with ⟨_, hh⟩ | hh
      · cases hh
      rcases Own.add_some hh with ⟨_, hh⟩ | hh
      · cases hh
      exact h.only k hh
    · rcases Own.add_some hkr with ⟨rfl, _⟩ | hh
      · exact i3.lt
      rcases Own.add_some hh with ⟨rfl, _⟩ | hh
      · exact i2.lt
      have := h.here k r hh; omega

/-- What SyncDir leaves. -/
def SyncedDir (own : Own) (a : Nat) (D : DiskA) (w : World) (e : Ending) (w' : World) : Prop :=
  (∃ own', Steps own own' w w' ∧ (D.begin true).2 ≠ 0 ∧ e = .returned (.int .i64 (D.begin true).2) ∧ DiskIs w' own' a (D.begin true).1) ∨
  ((D.begin true).2 = 0 ∧ e = .returned (.int .i64 0) ∧ Settled own a D.laid.length (D.begin true).1 w w')

set_option maxRecDepth 100000 in
theorem syncDir_any (own : Own) (a : Nat) (D : DiskA) (w : World) (h : DiskIs w own a D) (hok : D.Ok) (ho : D.ops < 4611686018427387904) (hl : D.left < 4611686018427387904) (hlen : D.laid.length < 1000000) (ht : ∀ o ∈ D.laid, o.told = true) :
    Calls Try.prog 13 #[.pointer (some ⟨a, 0, none⟩)] w (SyncedDir own a D w) := by
  have hc := begin_any own a D true w h ho hl
  have hbl : (D.begin true).1.laid = D.laid := (DiskA.begin_same D true).2.2.1
  by_cases he : (D.begin true).2 = 0
  · have HOK := Lib.hid (DiskA.begin_ok hok true)
    have HC := Lib.hid hc; have HBL := Lib.hid hbl; have HE := Lib.hid he; have HLEN := Lib.hid hlen; have HT := Lib.hid ht
    clear hc hbl he h hok ho hl hlen ht
    go_enter Try.func13, Try.ntmps13
    go_wp2_with fail
    refine HC.out.mono ?_
    rintro e w1 ⟨rfl, hd1, hs1⟩
    rw [HE.out]
    obtain ⟨ms, mk, mf, lv, k1, k2⟩ := hd1.out
    obtain ⟨p, c, rfl⟩ : ∃ p c, lv = .slice p (D.begin true).1.laid.length c := by
      rcases k2.laid.2 with ⟨h, h0⟩ | ⟨g, c, _, h, _⟩
      · exact ⟨none, 0, by rw [h, h0]⟩
      · exact ⟨_, c, h⟩
    have c6 : w1.cell? ⟨a, 6, none⟩ = some (.slice p (D.begin true).1.laid.length c) := cells_of k1 6
    have hst := settle_any own a (D.begin true).1.laid.length (D.begin true).1 w1 hd1 HOK.out (Nat.le_refl _) (by rw [HBL.out]; exact HLEN.out) (by rw [HBL.out]; exact HT.out)
    have HST := Lib.hid hst; have HS1 := Lib.hid hs1; have HD1 := Lib.hid hd1
    clear hst hs1 hd1 k1 k2
    go_wp2_with fail
    refine HST.out.mono ?_
    rintro e w2 ⟨rfl, hset⟩
    have hfin : SyncedDir own a D w (.returned (.int .i64 0)) w2 := by
      obtain ⟨own', fm', q1, q2, q3⟩ := hset
      refine .inr ⟨HE.out, rfl, own', fm', HS1.out.trans q1, ?_, ?_⟩
      · rw [HBL.out] at q2; exact q2
      · rw [HBL.out] at q3; rw [HBL.out]; exact q3
    have HFIN := Lib.hid hfin
    clear hset hfin c6
    go_wp2
    go_ret
    exact HFIN.out
  · have hc0 : ∃ x : Int, (D.begin true).2 = x ∧ x ≠ 0 := ⟨_, rfl, he⟩
    obtain ⟨x, hx, hx0⟩ := hc0
    have HC := Lib.hid hc; have HX := Lib.hid hx; have HE := Lib.hid he
    clear hc hbl he h hok ho hl hlen ht hx
    go_enter Try.func13, Try.ntmps13
    go_wp2_with fail
    refine HC.out.mono ?_
    rintro e w1 ⟨rfl, hd1, hs1⟩
    rw [HX.out]
    have hxb : (x == 0) = false := beq_eq_false_iff_ne.2 hx0
    clear hx0
    have HD1 := Lib.hid hd1; have HS1 := Lib.hid hs1
    clear hd1 hs1
    go_wp2
    go_ret
    exact .inl ⟨own, HS1.out, HE.out, by rw [HX.out]; rfl, HD1.out⟩
end Go.Proofs.Ytobhhedggppneaa
