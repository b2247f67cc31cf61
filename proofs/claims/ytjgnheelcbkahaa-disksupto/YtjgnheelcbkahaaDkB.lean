/-
  Stop, Sync, New of both disks; pick.
-/
import Derived.Test.YtjgnheelcbkahaaDkA
namespace Go.Proofs.Ytjgnheelcbkahaa.dk
open Go.RowKit

/-- what Stop makes of left -/
def stopL (left : Int) (st : Bool) (n : Int) : Int := if stepNo left st then left else if n < 0 then -1 else n

theorem stopL_no {left : Int} {st : Bool} {n : Int} (h : stepNo left st = true) : stopL left st n = left := by simp [stopL, h]
theorem stopL_neg {left : Int} {st : Bool} {n : Int} (h : stepNo left st = false) (hn : n < 0) : stopL left st n = -1 := by simp [stopL, h, hn]
theorem stopL_pos {left : Int} {st : Bool} {n : Int} (h : stepNo left st = false) (hn : ¬ n < 0) : stopL left st n = n := by simp [stopL, h, hn]

theorem fr_set {b : Nat} {w : World} (w' : World) (i : Nat) (v : Value) (hw : Fr [b] w w') : Fr [b] w (w'.setCell ⟨b, i, none⟩ v) := hw.setCell _ (.inl (by simp)) v

set_option maxHeartbeats 400000 in
theorem dsk_stop (w : World) (b : Nat) (vs vn vl : Value) (left steps : Int) (st : Bool) (n : Int) (hA : At w b (dskCells vs vn vl left steps st) 65) :
    Calls Try.prog 35 #[.pointer (some ⟨b, 0, none⟩), .int .i64 n] w fun e w' => e = .returned (.tuple #[]) ∧ At w' b (dskCells vs vn vl (stopL left st n) steps st) 65 ∧ Fr [b] w w' := by
  obtain ⟨c0, c1, c2, c3, c4, c5⟩ := dsk_cells hA
  have hf := hA.frozen
  cases hn : stepNo left st with
  | true =>
    rw [stopL_no hn]
    have HN : Hid (stepNo left st = true) := hn
    clear hn
    go_enter Try.func35, Try.ntmps35
    go_wp2_with fail
    refine (dsk_stopped _ b vs vn vl left steps st hA).mono ?_
    rintro e w' ⟨rfl, rfl⟩
    rw [HN.out]
    go_wp2_with fail
    go_end0
    exact ⟨rfl, hA, Fr.refl _ _⟩
  | false =>
    have HN : Hid (stepNo left st = false) := hn
    by_cases h1 : n < 0
    · rw [stopL_neg hn h1]
      by_cases h2 : n < -1
      · clear hn h1
        go_enter Try.func35, Try.ntmps35
        go_wp2_with fail
        refine (dsk_stopped _ b vs vn vl left steps st hA).mono ?_
        rintro e w' ⟨rfl, rfl⟩
        rw [HN.out]
        go_wp2_with fail
        go_end0
        exact ⟨rfl, hA.set 3 _, fr_set _ _ _ (Fr.refl _ _)⟩
      · obtain rfl : n = -1 := by omega
        clear hn h1 h2
        go_enter Try.func35, Try.ntmps35
        go_wp2_with fail
        refine (dsk_stopped _ b vs vn vl left steps st hA).mono ?_
        rintro e w' ⟨rfl, rfl⟩
        rw [HN.out]
        go_wp2_with fail
        go_end0
        exact ⟨rfl, hA.set 3 _, fr_set _ _ _ (Fr.refl _ _)⟩
    · rw [stopL_pos hn h1]
      have h2 : -1 ≤ n := by omega
      clear hn h1
      go_enter Try.func35, Try.ntmps35
      go_wp2_with fail
      refine (dsk_stopped _ b vs vn vl left steps st hA).mono ?_
      rintro e w' ⟨rfl, rfl⟩
      rw [HN.out]
      go_wp2_with fail
      go_end0
      exact ⟨rfl, hA.set 3 _, fr_set _ _ _ (Fr.refl _ _)⟩

set_option maxHeartbeats 400000 in
theorem ref_stop (w : World) (b : Nat) (vd : Value) (safe left : Int) (st : Bool) (steps : Int) (n : Int) (hA : At w b (refCells vd safe left st steps) 68) :
    Calls Try.prog 36 #[.pointer (some ⟨b, 0, none⟩), .int .i64 n] w fun e w' => e = .returned (.tuple #[]) ∧ At w' b (refCells vd safe (stopL left st n) st steps) 68 ∧ Fr [b] w w' := by
  obtain ⟨c0, c1, c2, c3, c4⟩ := ref_cells hA
  have hf := hA.frozen
  cases hn : stepNo left st with
  | true =>
    rw [stopL_no hn]
    have HN : Hid (stepNo left st = true) := hn
    clear hn
    go_enter Try.func36, Try.ntmps36
    go_wp2_with fail
    refine (ref_stopped _ b vd safe left st steps hA).mono ?_
    rintro e w' ⟨rfl, rfl⟩
    rw [HN.out]
    go_wp2_with fail
    refine bodyPost_ret (results_none rfl _ _ _) rfl ?_
    exact ⟨rfl, hA, Fr.refl _ _⟩
  | false =>
    have HN : Hid (stepNo left st = false) := hn
    by_cases h1 : n < 0
    · rw [stopL_neg hn h1]
      clear hn
      go_enter Try.func36, Try.ntmps36
      go_wp2_with fail
      refine (ref_stopped _ b vd safe left st steps hA).mono ?_
      rintro e w' ⟨rfl, rfl⟩
      rw [HN.out]
      go_wp2_with fail
      go_end0
      exact ⟨rfl, (hA.set 2 _).set 2 _, fr_set _ _ _ (fr_set _ _ _ (Fr.refl _ _))⟩
    · rw [stopL_pos hn h1]
      clear hn
      go_enter Try.func36, Try.ntmps36
      go_wp2_with fail
      refine (ref_stopped _ b vd safe left st steps hA).mono ?_
      rintro e w' ⟨rfl, rfl⟩
      rw [HN.out]
      go_wp2_with fail
      go_end0
      exact ⟨rfl, hA.set 2 _, fr_set _ _ _ (Fr.refl _ _)⟩

theorem dsk_new (w : World) :
    Calls Try.prog 12 #[] w fun e w' => e = .returned (.pointer (some ⟨w.heap.size, 0, none⟩)) ∧ At w' w.heap.size (dskCells (.slice none 0 0) (.slice none 0 0) (.slice none 0 0) (-1) 0 false) 65 ∧ Fr [] w w' ∧ w'.heap.size = w.heap.size + 1 := by
  go_enter Try.func12, Try.ntmps12
  go_wp2
  go_ret
  exact ⟨rfl, heap_alloc_new w _, (Fr.refl _ _).alloc _, by simp⟩

theorem ref_new (w : World) :
    Calls Try.prog 13 #[] w fun e w' => e = .returned (.pointer (some ⟨w.heap.size, 0, none⟩)) ∧ At w' w.heap.size (refCells (.slice none 0 0) 0 (-1) false 0) 68 ∧ Fr [] w w' ∧ w'.heap.size = w.heap.size + 1 := by
  go_enter Try.func13, Try.ntmps13
  go_wp2
  go_ret
  exact ⟨rfl, heap_alloc_new w _, (Fr.refl _ _).alloc _, by simp⟩

set_option maxHeartbeats 400000 in
theorem dsk_sync (w : World) (b : Nat) (vs vn vl : Value) (left steps : Int) (st : Bool) (hA : At w b (dskCells vs vn vl left steps st) 65) (hs : 0 ≤ steps ∧ steps < 4611686018427387904) (hl : left ≤ 9223372036854775807) (hv : ∃ a n c, vn = .slice a n c) :
    Calls Try.prog 17 #[.pointer (some ⟨b, 0, none⟩)] w fun e w' => e = .returned (.bool (!stepNo left st)) ∧ At w' b (if stepNo left st then dskCells vs vn vl (stepL left st) (steps + 1) true else dskCells vn vn (.slice none 0 0) (stepL left st) (steps + 1) false) 65 ∧ Fr [b] w w' := by
  obtain ⟨va, vm, vc, rfl⟩ := hv
  have hc := dsk_step w b vs (.slice va vm vc) vl left steps st hA hs hl
  clear hA hs hl
  cases hn : stepNo left st with
  | true =>
    have HN : Hid (stepNo left st = true) := hn
    clear hn
    go_enter Try.func17, Try.ntmps17
    go_wp2_with fail
    refine hc.mono ?_
    rintro e w' ⟨rfl, h1, h2⟩
    rw [HN.out] at h1 ⊢
    go_wp2_with fail
    go_ret
    exact ⟨rfl, h1, h2⟩
  | false =>
    have HN : Hid (stepNo left st = false) := hn
    clear hn
    go_enter Try.func17, Try.ntmps17
    go_wp2_with fail
    refine hc.mono ?_
    rintro e w' ⟨rfl, h1, h2⟩
    rw [HN.out] at h1 ⊢
    obtain ⟨c0, c1, c2, c3, c4, c5⟩ := dsk_cells h1
    have hf := h1.frozen
    go_wp2_with fail
    go_ret
    exact ⟨rfl, (h1.set 0 _).set 2 _, fr_set _ _ _ (fr_set _ _ _ h2)⟩

set_option maxHeartbeats 400000 in
theorem ref_sync (w : World) (b : Nat) (va : Option Addr) (vm vc : Nat) (safe left : Int) (st : Bool) (steps : Int) (hA : At w b (refCells (.slice va vm vc) safe left st steps) 68) (hs : 0 ≤ steps ∧ steps < 4611686018427387904) (hl : left ≤ 9223372036854775807) :
    Calls Try.prog 18 #[.pointer (some ⟨b, 0, none⟩)] w fun e w' => e = .returned (.bool (!stepNo left st)) ∧ At w' b (if stepNo left st then refCells (.slice va vm vc) safe (stepL left st) true (steps + 1) else refCells (.slice va vm vc) vm (stepL left st) false (steps + 1)) 68 ∧ Fr [b] w w' := by
  have hc := ref_step w b (.slice va vm vc) safe left st steps hA hs hl
  clear hA hs hl
  cases hn : stepNo left st with
  | true =>
    have HN : Hid (stepNo left st = true) := hn
    clear hn
    go_enter Try.func18, Try.ntmps18
    go_wp2_with fail
    refine hc.mono ?_
    rintro e w' ⟨rfl, h1, h2⟩
    rw [HN.out] at h1 ⊢
    go_wp2_with fail
    go_ret
    exact ⟨rfl, h1, h2⟩
  | false =>
    have HN : Hid (stepNo left st = false) := hn
    clear hn
    go_enter Try.func18, Try.ntmps18
    go_wp2_with fail
    refine hc.mono ?_
    rintro e w' ⟨rfl, h1, h2⟩
    rw [HN.out] at h1 ⊢
    obtain ⟨c0, c1, c2, c3, c4⟩ := ref_cells h1
    have hf := h1.frozen
    go_wp2_with fail
    go_ret
    exact ⟨rfl, h1.set 1 _, fr_set _ _ _ h2⟩

/-- pick -/
def pickI (c : Int) (n : Nat) : Nat := if c < 0 then (-(c + 1)).toNat % n else c.toNat % n

theorem ret_i64 {a b : Int} (h : a = b) : Ending.returned (.int .i64 a) = .returned (.int .i64 b) := by rw [h]

set_option maxHeartbeats 400000 in
theorem pick_any (w : World) (c : Int) (n : Nat) (hn : 0 < n) (hm : n < 4611686018427387904) (h1 : -9223372036854775808 ≤ c) (h2 : c ≤ 9223372036854775807) :
    Calls Try.prog 14 #[.int .i64 c, .int .i64 n] w fun e w' => ∃ k : Nat, e = .returned (.int .i64 k) ∧ k = pickI c n ∧ k < n ∧ w' = w := by
  have hz : ((n : Int) == 0) = false := by simp; omega
  by_cases hc : c < 0
  · go_enter Try.func14, Try.ntmps14
    go_wp2
    go_ret
    refine ⟨pickI c n, ret_i64 ?_, rfl, ?_, rfl⟩
    · have e1 : pickI c n = (-(c + 1)).toNat % n := by simp [pickI, hc]
      rw [e1]
      have e2 : (c + 1) = -(((-(c + 1)).toNat : Nat) : Int) := by omega
      generalize (-(c + 1)).toNat = m at e2 ⊢
      rw [e2, Int.neg_tmod, Int.neg_neg, Int.ofNat_tmod]
    · unfold pickI; split <;> exact Nat.mod_lt _ hn
  · go_enter Try.func14, Try.ntmps14
    go_wp2
    go_ret
    refine ⟨pickI c n, ret_i64 ?_, rfl, ?_, rfl⟩
    · have e1 : pickI c n = c.toNat % n := if_neg (by omega)
      rw [e1]
      obtain ⟨m, rfl⟩ := Int.eq_ofNat_of_zero_le (show 0 ≤ c by omega)
      simp
    · unfold pickI; split <;> exact Nat.mod_lt _ hn

end Go.Proofs.Ytjgnheelcbkahaa.dk
