/-
  THE SMALL METHODS OF BOTH DISKS: New, Stopped, Steps, step, Stop, Sync.
-/
import Derived.Test.YtjgnheelcbkahaaRows
import Derived.Test.YtjgnheelcbkahaaDk
namespace Go.Proofs.Ytjgnheelcbkahaa.dk
open Go.RowKit

structure Dsk where
  safe : List Cel
  now : List Cel
  loose : List Cel
  left : Int
  steps : Int
  stopped : Bool

/-- the struct disk.Disk in the block b -/
def dskCells (vs vn vl : Value) (left steps : Int) (stopped : Bool) : Array Value := #[vs, vn, vl, .int .i64 left, .int .i64 steps, .bool stopped]

structure DiskAt (w : World) (base b : Nat) (vs vn vl : Value) (D : Dsk) : Prop where
  blk : At w b (dskCells vs vn vl D.left D.steps D.stopped) 65
  safe : w.ownsRow base 70 4 vs D.safe.length (cellsOf D.safe)
  now : w.ownsRow base 70 4 vn D.now.length (cellsOf D.now)
  loose : w.ownsRow base 70 4 vl D.loose.length (cellsOf D.loose)

theorem dsk_cells {w : World} {b : Nat} {vs vn vl : Value} {left steps : Int} {stopped : Bool} (h : At w b (dskCells vs vn vl left steps stopped) 65) :
    w.cell? ⟨b, 0, none⟩ = some vs ∧ w.cell? ⟨b, 1, none⟩ = some vn ∧ w.cell? ⟨b, 2, none⟩ = some vl ∧ w.cell? ⟨b, 3, none⟩ = some (.int .i64 left) ∧ w.cell? ⟨b, 4, none⟩ = some (.int .i64 steps) ∧ w.cell? ⟨b, 5, none⟩ = some (.bool stopped) :=
  ⟨h.cell 0, h.cell 1, h.cell 2, h.cell 3, h.cell 4, h.cell 5⟩


/-- the struct cairnref.Disk in a block -/
def refCells (vd : Value) (safe left : Int) (down : Bool) (steps : Int) : Array Value := #[vd, .int .i64 safe, .int .i64 left, .bool down, .int .i64 steps]

theorem ref_cells {w : World} {b : Nat} {vd : Value} {safe left : Int} {down : Bool} {steps : Int} (h : At w b (refCells vd safe left down steps) 68) :
    w.cell? ⟨b, 0, none⟩ = some vd ∧ w.cell? ⟨b, 1, none⟩ = some (.int .i64 safe) ∧ w.cell? ⟨b, 2, none⟩ = some (.int .i64 left) ∧ w.cell? ⟨b, 3, none⟩ = some (.bool down) ∧ w.cell? ⟨b, 4, none⟩ = some (.int .i64 steps) :=
  ⟨h.cell 0, h.cell 1, h.cell 2, h.cell 3, h.cell 4⟩

theorem At.set {w : World} {b : Nat} {cs : Array Value} {t : TypeId} (h : At w b cs t) (i : Nat) (v : Value) : At (w.setCell ⟨b, i, none⟩ v) b (cs.setIfInBounds i v) t :=
  heap_setCell_same w b i cs t v h

/-- is a step refused? -/
def stepNo (left : Int) (st : Bool) : Bool := st || left == 0
/-- how many are left behind it -/
def stepL (left : Int) (st : Bool) : Int := if stepNo left st then left else if 0 < left then left - 1 else left

theorem stepL_no {left : Int} {st : Bool} (h : stepNo left st = true) : stepL left st = left := by simp [stepL, h]
theorem stepL_pos {left : Int} {st : Bool} (h : stepNo left st = false) (hp : 0 < left) : stepL left st = left - 1 := by simp [stepL, h, hp]
theorem stepL_neg {left : Int} {st : Bool} (h : stepNo left st = false) (hp : ¬ 0 < left) : stepL left st = left := by simp [stepL, h, hp]

set_option maxHeartbeats 400000 in
theorem dsk_stopped (w : World) (b : Nat) (vs vn vl : Value) (left steps : Int) (st : Bool) (h : At w b (dskCells vs vn vl left steps st) 65) :
    Calls Try.prog 37 #[.pointer (some ⟨b, 0, none⟩)] w fun e w' => e = .returned (.bool (stepNo left st)) ∧ w' = w := by
  obtain ⟨c0, c1, c2, c3, c4, c5⟩ := dsk_cells h
  have hf := h.frozen
  cases st with
  | true =>
    go_enter Try.func37, Try.ntmps37
    go_wp2
    go_ret
    exact ⟨rfl, rfl⟩
  | false =>
    go_enter Try.func37, Try.ntmps37
    go_wp2
    go_ret
    exact ⟨rfl, rfl⟩

set_option maxHeartbeats 400000 in
theorem ref_stopped (w : World) (b : Nat) (vd : Value) (safe left : Int) (st : Bool) (steps : Int) (h : At w b (refCells vd safe left st steps) 68) :
    Calls Try.prog 38 #[.pointer (some ⟨b, 0, none⟩)] w fun e w' => e = .returned (.bool (stepNo left st)) ∧ w' = w := by
  obtain ⟨c0, c1, c2, c3, c4⟩ := ref_cells h
  have hf := h.frozen
  cases st with
  | true =>
    go_enter Try.func38, Try.ntmps38
    go_wp2
    go_ret
    exact ⟨rfl, rfl⟩
  | false =>
    go_enter Try.func38, Try.ntmps38
    go_wp2
    go_ret
    exact ⟨rfl, rfl⟩

theorem dsk_steps (w : World) (b : Nat) (vs vn vl : Value) (left steps : Int) (st : Bool) (h : At w b (dskCells vs vn vl left steps st) 65) :
    Calls Try.prog 39 #[.pointer (some ⟨b, 0, none⟩)] w fun e w' => e = .returned (.int .i64 steps) ∧ w' = w := by
  obtain ⟨c0, c1, c2, c3, c4, c5⟩ := dsk_cells h
  have hf := h.frozen
  go_enter Try.func39, Try.ntmps39
  go_wp2
  go_ret
  exact ⟨rfl, rfl⟩

set_option maxHeartbeats 400000 in
theorem dsk_step (w : World) (b : Nat) (vs vn vl : Value) (left steps : Int) (st : Bool) (h : At w b (dskCells vs vn vl left steps st) 65) (hs : 0 ≤ steps ∧ steps < 4611686018427387904) (hl : left ≤ 9223372036854775807) :
    Calls Try.prog 23 #[.pointer (some ⟨b, 0, none⟩)] w fun e w' => e = .returned (.bool (!stepNo left st)) ∧ At w' b (dskCells vs vn vl (stepL left st) (steps + 1) (stepNo left st)) 65 ∧ Fr [b] w w' := by
  obtain ⟨c0, c1, c2, c3, c4, c5⟩ := dsk_cells h
  have hf := h.frozen
  obtain ⟨h0, h1⟩ := hs
  have fin : ∀ (w' : World) (i : Nat) (v : Value), Fr [b] w w' → Fr [b] w (w'.setCell ⟨b, i, none⟩ v) := fun w' i v hw => hw.setCell _ (.inl (by simp)) v
  cases st with
  | true =>
    rw [stepL_no (st := true) rfl]
    go_enter Try.func23, Try.ntmps23
    go_wp2
    go_ret
    exact ⟨rfl, (h.set 4 _).set 5 _, fin _ _ _ (fin _ _ _ (Fr.refl _ _))⟩
  | false =>
    by_cases hz : left = 0
    · subst hz
      rw [stepL_no (st := false) rfl]
      go_enter Try.func23, Try.ntmps23
      go_wp2
      go_ret
      exact ⟨rfl, (h.set 4 _).set 5 _, fin _ _ _ (fin _ _ _ (Fr.refl _ _))⟩
    · have hz2 : (left == 0) = false := by simpa using hz
      have hno : stepNo left false = false := hz2
      by_cases hp : 0 < left
      · rw [stepL_pos hno hp, hno]
        clear hz hno
        go_enter Try.func23, Try.ntmps23
        go_wp2
        go_ret
        exact ⟨rfl, (h.set 4 _).set 3 _, fin _ _ _ (fin _ _ _ (Fr.refl _ _))⟩
      · rw [stepL_neg hno hp, hno]
        clear hz hno
        go_enter Try.func23, Try.ntmps23
        go_wp2
        go_ret
        exact ⟨rfl, h.set 4 _, fin _ _ _ (Fr.refl _ _)⟩

set_option maxHeartbeats 400000 in
theorem ref_step (w : World) (b : Nat) (vd : Value) (safe left : Int) (st : Bool) (steps : Int) (h : At w b (refCells vd safe left st steps) 68) (hs : 0 ≤ steps ∧ steps < 4611686018427387904) (hl : left ≤ 9223372036854775807) :
    Calls Try.prog 25 #[.pointer (some ⟨b, 0, none⟩)] w fun e w' => e = .returned (.bool (!stepNo left st)) ∧ At w' b (refCells vd safe (stepL left st) (stepNo left st) (steps + 1)) 68 ∧ Fr [b] w w' := by
  obtain ⟨c0, c1, c2, c3, c4⟩ := ref_cells h
  have hf := h.frozen
  obtain ⟨h0, h1⟩ := hs
  have fin : ∀ (w' : World) (i : Nat) (v : Value), Fr [b] w w' → Fr [b] w (w'.setCell ⟨b, i, none⟩ v) := fun w' i v hw => hw.setCell _ (.inl (by simp)) v
  cases hn : stepNo left st with
  | true =>
    rw [stepL_no hn]
    have HN : Hid (stepNo left st = true) := hn
    clear hn
    go_enter Try.func25, Try.ntmps25
    go_wp2_with fail
    refine (ref_stopped _ b vd safe left st (steps + 1) (h.set 4 _)).mono ?_
    rintro e w' ⟨rfl, rfl⟩
    rw [HN.out]
    go_wp2_with fail
    go_ret
    exact ⟨rfl, (h.set 4 _).set 3 _, fin _ _ _ (fin _ _ _ (Fr.refl _ _))⟩
  | false =>
    have HN : Hid (stepNo left st = false) := hn
    have hst : st = false := by cases st <;> simp_all [stepNo]
    subst hst
    by_cases hp : 0 < left
    · rw [stepL_pos hn hp]
      clear hn
      go_enter Try.func25, Try.ntmps25
      go_wp2_with fail
      refine (ref_stopped _ b vd safe left false (steps + 1) (h.set 4 _)).mono ?_
      rintro e w' ⟨rfl, rfl⟩
      rw [HN.out]
      go_wp2_with fail
      go_ret
      exact ⟨rfl, (h.set 4 _).set 2 _, fin _ _ _ (fin _ _ _ (Fr.refl _ _))⟩
    · rw [stepL_neg hn hp]
      clear hn
      go_enter Try.func25, Try.ntmps25
      go_wp2_with fail
      refine (ref_stopped _ b vd safe left false (steps + 1) (h.set 4 _)).mono ?_
      rintro e w' ⟨rfl, rfl⟩
      rw [HN.out]
      go_wp2_with fail
      go_ret
      exact ⟨rfl, h.set 4 _, fin _ _ _ (Fr.refl _ _)⟩

end Go.Proofs.Ytjgnheelcbkahaa.dk
