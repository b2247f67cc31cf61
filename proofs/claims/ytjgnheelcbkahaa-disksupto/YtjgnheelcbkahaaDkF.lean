/-
  Write of both disks.
-/
import Derived.Test.YtjgnheelcbkahaaDkE
namespace Go.Proofs.Ytjgnheelcbkahaa.dk
open Go.RowKit

/-- is it a write that a disk which goes on takes? -/
def okArgs (dev blk : Int) (data : ByteArray) : Bool := decide (0 ≤ dev) && decide (dev < 9) && decide (0 ≤ blk) && decide (blk < 4096) && decide (data.size ≤ 2048)

set_option maxHeartbeats 2000000 in
theorem dsk_write_no (w : World) (b : Nat) (vs vn vl : Value) (left steps : Int) (st : Bool) (dev blk : Int) (data : ByteArray) (hA : At w b (dskCells vs vn vl left steps st) 65) (hs : 0 ≤ steps ∧ steps < 4611686018427387904) (hl : left ≤ 9223372036854775807) (hno : stepNo left st = true ∨ okArgs dev blk data = false) :
    Calls Try.prog 15 #[.pointer (some ⟨b, 0, none⟩), .int .i64 dev, .int .i64 blk, .string data] w fun e w' => e = .returned (.bool false) ∧ At w' b (dskCells vs vn vl (stepL left st) (steps + 1) (stepNo left st)) 65 ∧ Fr [b] w w' := by
  have hc := dsk_step w b vs vn vl left steps st hA hs hl
  clear hA hs hl
  go_enter Try.func15, Try.ntmps15
  go_wp2_with fail
  refine hc.mono ?_
  rintro e w' ⟨rfl, h1, h2⟩
  have H1 : Hid (At w' b (dskCells vs vn vl (stepL left st) (steps + 1) (stepNo left st)) 65 ∧ Fr [b] w w') := ⟨h1, h2⟩
  clear h1 h2 hc
  by_cases hn : stepNo left st = true
  · clear hno
    go_wp2_with fail
    go_ret
    exact ⟨rfl, H1.out.1, H1.out.2⟩
  · have hn' : stepNo left st = false := by simpa using hn
    have ho : okArgs dev blk data = false := by
      rcases hno with h | h
      · exact absurd h hn
      · exact h
    have ho2 : dev < 0 ∨ 9 ≤ dev ∨ blk < 0 ∨ 4096 ≤ blk ∨ (2048 : Int) < (data.size : Int) := by
      unfold okArgs at ho
      simp only [Bool.and_eq_false_iff, decide_eq_false_iff_not] at ho
      omega
    clear hno hn ho
    have fin : ∀ {a : Act} {R : Prop}, R → R := fun h => h
    by_cases c1 : dev < 0
    · clear ho2
      go_wp2_with fail
      go_ret
      exact ⟨rfl, H1.out.1, H1.out.2⟩
    by_cases c2 : 9 ≤ dev
    · clear ho2
      go_wp2_with fail
      go_ret
      exact ⟨rfl, H1.out.1, H1.out.2⟩
    by_cases c3 : blk < 0
    · clear ho2
      go_wp2_with fail
      go_ret
      exact ⟨rfl, H1.out.1, H1.out.2⟩
    by_cases c4 : 4096 ≤ blk
    · clear ho2
      go_wp2_with fail
      go_ret
      exact ⟨rfl, H1.out.1, H1.out.2⟩
    have c5 : (2048 : Int) < (data.size : Int) := by omega
    clear ho2
    go_wp2_with fail
    go_ret
    exact ⟨rfl, H1.out.1, H1.out.2⟩

/-- what a write makes of a disk -/
def Dsk.wrote (D : Dsk) (c : Cel) : Dsk := { safe := D.safe, now := putL D.now c, loose := D.loose ++ [c], left := stepL D.left D.stopped, steps := D.steps + 1, stopped := false }

/-- the rows of a disk lie apart from its struct, and what is loose apart from the rest -/
structure Sep (b : Nat) (vs vn vl : Value) : Prop where
  s : vs.ownBlock ≠ some b
  n : vn.ownBlock ≠ some b
  l : vl.ownBlock ≠ some b
  sl : ∀ k, vl.ownBlock = some k → vs.ownBlock ≠ some k
  nl : ∀ k, vl.ownBlock = some k → vn.ownBlock ≠ some k

/-- what was made is new, or what it was -/
def New (w : World) (v : Value) : Prop := ∀ k, v.ownBlock = some k → w.heap.size ≤ k

theorem write_fin {w w1 w4 w6 : World} {base b : Nat} {vs vn' vl : Value} {D : Dsk} {c : Cel} {g6 cap6 : Nat} {X : Obj} (hsep : vs.ownBlock ≠ some b) (hsep2 : vl.ownBlock ≠ some b) (sl : ∀ k, vl.ownBlock = some k → vs.ownBlock ≠ some k)
    (hvl : ∀ k, vl.ownBlock = some k → k < w1.heap.size) (hb1 : b < w1.heap.size) (h4 : At w4 b (dskCells vs vn' vl (stepL D.left D.stopped) (D.steps + 1) false) 65)
    (hr3 : w4.ownsRow base 70 4 vs D.safe.length (cellsOf D.safe)) (hr4 : w4.ownsRow w1.heap.size 70 4 vn' (putL D.now c).length (cellsOf (putL D.now c))) (hf4 : Fr [b] w w4) (hsz : w.heap.size ≤ w1.heap.size) (hbase : base ≤ w.heap.size) (hsz1 : w1.heap.size ≤ w4.heap.size)
    (hown6 : w6.ownsRow base 70 4 (.slice (some ⟨g6, 0, none⟩) (D.loose.length + 1) cap6) (D.loose ++ [c]).length (cellsOf (D.loose ++ [c]))) (hgrow6 : (w4.alloc X).drew.grownBy w6 vl.ownBlock) (hat6 : vl.ownBlock = some g6 ∨ g6 = (w4.alloc X).drew.heap.size) :
    ∃ vn' vl', DiskAt (w6.setCell ⟨b, 2, none⟩ (.slice (some ⟨g6, 0, none⟩) (D.loose.length + 1) cap6)) base b vs vn' vl' (D.wrote c) ∧ Fr (b :: vl.ownBlock.toList) w (w6.setCell ⟨b, 2, none⟩ (.slice (some ⟨g6, 0, none⟩) (D.loose.length + 1) cap6)) ∧ New w vn' ∧ (vl'.ownBlock = vl.ownBlock ∨ New w vl') ∧ (∀ k, vl'.ownBlock = some k → vn'.ownBlock ≠ some k) := by
  have hg6 : ∀ k, (Value.slice (some ⟨g6, 0, none⟩) (D.loose.length + 1) cap6).ownBlock = some k → k = g6 := fun k h => by simpa [Value.ownBlock] using h.symm
  have hsize : (w4.alloc X).drew.heap.size = w4.heap.size + 1 := by simp
  have h6 := (h4.alloc X).drew.grown hgrow6 hsep2
  have hr36 := (rowDrew (hr3.alloc X)).kept hgrow6 (by
    cases hv : vl.ownBlock with
    | none => cases hs : vs.ownBlock <;> simp
    | some k => exact .inr (sl k hv))
  have hr46 := (rowDrew (hr4.alloc X)).kept hgrow6 (by
    cases hv : vl.ownBlock with
    | none => cases hs : vn'.ownBlock <;> simp
    | some k =>
      refine .inr (fun h => ?_)
      have h1 := (hr4.lt k h).1
      have h2 := hvl k hv
      omega)
  have hnb : vn'.ownBlock ≠ some b := fun h => by have := (hr4.lt b h).1; omega
  have hgb : (Value.slice (some ⟨g6, 0, none⟩) (D.loose.length + 1) cap6).ownBlock ≠ some b := fun h => by
    have e := hg6 b h
    rcases hat6 with h1 | h1
    · exact hsep2 (by rw [h1, e])
    · omega
  refine ⟨vn', .slice (some ⟨g6, 0, none⟩) (D.loose.length + 1) cap6, ⟨h6.set 2 _, rowSetOther hr36 b 2 hsep _, rowSetOther (rowBase hr46 (by omega)) b 2 hnb _, rowSetOther hown6 b 2 hgb _⟩, ?_, ?_, ?_, ?_⟩
  · have hS : Fr (b :: vl.ownBlock.toList) w w4 := hf4.mono (fun k _ hk => by simp at hk; simp [hk])
    refine ((hS.alloc X).drew.grown hgrow6 (fun k hk => .inl (by simp [hk]))).setCell _ (.inl (by simp)) _
  · intro k hk
    have := (hr4.lt k hk).1
    omega
  · rcases hat6 with h1 | h1
    · exact .inl h1.symm
    · refine .inr (fun k hk => ?_)
      have e := hg6 k hk
      omega
  · intro k hk h
    have e := hg6 k hk
    have h1 := hr4.lt k h
    rcases hat6 with h2 | h2
    · have := hvl g6 h2; omega
    · omega

set_option maxHeartbeats 4000000 in
theorem dsk_write_yes (w : World) (base b : Nat) (vs vn vl : Value) (D : Dsk) (dev blk : Int) (data : ByteArray) (hD : DiskAt w base b vs vn vl D) (hs : 0 ≤ D.steps ∧ D.steps < 4611686018427387904) (hl : D.left ≤ 9223372036854775807) (hn : stepNo D.left D.stopped = false) (ho : okArgs dev blk data = true) (hm : D.now.length < 1073741824) (hm2 : D.loose.length < 1073741824)
    (hsep : Sep b vs vn vl) (hbase : base ≤ w.heap.size) :
    Calls Try.prog 15 #[.pointer (some ⟨b, 0, none⟩), .int .i64 dev, .int .i64 blk, .string data] w fun e w' => e = .returned (.bool true) ∧ ∃ vn' vl', DiskAt w' base b vs vn' vl' (D.wrote ⟨dev, blk, data, false⟩) ∧ Fr (b :: vl.ownBlock.toList) w w' ∧ New w vn' ∧ (vl'.ownBlock = vl.ownBlock ∨ New w vl') ∧ (∀ k, vl'.ownBlock = some k → vn'.ownBlock ≠ some k) := by
  have hc := dsk_step w b vs vn vl D.left D.steps D.stopped hD.blk hs hl
  have hrow := hD.now
  have hrow2 := hD.loose
  have hrow3 := hD.safe
  clear hD hs hl
  have ho2 : 0 ≤ dev ∧ dev < 9 ∧ 0 ≤ blk ∧ blk < 4096 ∧ (data.size : Int) ≤ 2048 := by
    unfold okArgs at ho
    simp only [Bool.and_eq_true, decide_eq_true_eq] at ho
    omega
  obtain ⟨o1, o2, o3, o4, o5⟩ := ho2
  have HN : Hid (stepNo D.left D.stopped = false) := hn
  clear ho
  go_enter Try.func15, Try.ntmps15
  go_wp2_with fail
  refine hc.mono ?_
  rintro e w1 ⟨rfl, h1, h2⟩
  have hrow1 := h2.row hrow (fun k hk => by simp; intro h; exact hsep.n (by rw [hk, h]))
  have hrow21 := h2.row hrow2 (fun k hk => by simp; intro h; exact hsep.l (by rw [hk, h]))
  have hrow31 := h2.row hrow3 (fun k hk => by simp; intro h; exact hsep.s (by rw [hk, h]))
  rw [hn] at h1
  have hb1 := h1.lt
  obtain ⟨c0, c1, c2, c3, c4, c5⟩ := dsk_cells h1
  have hf := h1.frozen
  have hsz := h2.size
  have hvl : ∀ k, vl.ownBlock = some k → k < w1.heap.size := fun k hk => (hrow21.lt k hk).2
  have HVL : Hid (∀ k, vl.ownBlock = some k → k < w1.heap.size) := hvl
  clear hc hrow hrow2 hrow3 hvl
  go_wp2_with fail
  go_region_with (go_at_call 24; refine (put_any _ base vn D.now ⟨dev, blk, data, false⟩ ?qr hm).mono ?_; (case qr => exact hrow1.alloc _); intro e w3 hq; obtain ⟨v3, he, hown3, hfr3⟩ := hq; subst he; have h3 := hfr3.at (h1.alloc _) (by simp); have hx3 := hfr3.at (at_alloc w1 (Cel.vs ⟨dev, blk, data, false⟩).toArray 70).drew (by simp); have hr23 := hfr3.row (hrow21.alloc _) (by simp); have hr33 := hfr3.row (hrow31.alloc _) (by simp); have hf3 := h3.frozen; obtain ⟨k0, k1, k2, k3, k4, k5⟩ := dsk_cells h3; obtain ⟨a3, cap3, hv3, hle3, hmx3, hcell3⟩ := row4' hown3; clear hcell3; subst hv3)
  all_goals
    have hsz3 := hfr3.size
    simp at hsz3
    have h4 := h3.set 1 (.slice a3 (putL D.now ⟨dev, blk, data, false⟩).length cap3)
    have hx4 := hx3.setOther (b' := b) (i := 1) (by omega) (.slice a3 (putL D.now ⟨dev, blk, data, false⟩).length cap3)
    have hr24 := rowSetOther hr23 b 1 hsep.l (.slice a3 (putL D.now ⟨dev, blk, data, false⟩).length cap3)
    have hr34 := rowSetOther hr33 b 1 hsep.s (.slice a3 (putL D.now ⟨dev, blk, data, false⟩).length cap3)
    have hne3 : (Value.slice a3 (putL D.now ⟨dev, blk, data, false⟩).length cap3).ownBlock ≠ some b := fun h => by have := (hown3.lt _ h).1; simp at this; omega
    have hr44 := rowSetOther hown3 b 1 hne3 (.slice a3 (putL D.now ⟨dev, blk, data, false⟩).length cap3)
    have hf4 : Fr [b] w (w3.setCell ⟨b, 1, none⟩ (.slice a3 (putL D.now ⟨dev, blk, data, false⟩).length cap3)) := Fr.setCell (Fr.trans (((h2.alloc _).drew)) (hfr3.nil)) _ (.inl (by simp)) _
    have h4s : w3.heap.size = (w3.setCell ⟨b, 1, none⟩ (.slice a3 (putL D.now ⟨dev, blk, data, false⟩).length cap3)).heap.size := by simp
    generalize w3.setCell ⟨b, 1, none⟩ (.slice a3 (putL D.now ⟨dev, blk, data, false⟩).length cap3) = w4 at *
    have h4' : At w4 b (dskCells vs (.slice a3 (putL D.now ⟨dev, blk, data, false⟩).length cap3) vl (stepL D.left D.stopped) (D.steps + 1) false) 65 := h4
    have x0 : w4.cell? ⟨w1.heap.size, 0, none⟩ = some (.int .i64 dev) := hx4.cell 0
    have x1 : w4.cell? ⟨w1.heap.size, 1, none⟩ = some (.int .i64 blk) := hx4.cell 1
    have x2 : w4.cell? ⟨w1.heap.size, 2, none⟩ = some (.string data) := hx4.cell 2
    have x3 : w4.cell? ⟨w1.heap.size, 3, none⟩ = some (.bool false) := hx4.cell 3
    have hb4 := h4'.lt
    clear c0 c1 c2 c3 c4 c5 hf k0 k1 k2 k3 k4 k5 hf3 h3 hx3 hr23 hr33 hown3 hrow1 hrow21 hrow31 h1 h4 hle3 hmx3
    obtain ⟨c0, c1, c2, c3, c4, c5⟩ := dsk_cells h4'
    have hf := h4'.frozen
    generalize hpl : putL D.now ⟨dev, blk, data, false⟩ = pl at *
    have HPL : Hid (putL D.now ⟨dev, blk, data, false⟩ = pl) := hpl
    clear hpl
    go_wp2_with fail
    go_region_law (refine step_app4 _ rfl (.tmp 51) (.tmp 53) 63 rfl base 70 Try.underlying63 Try.infoCell vl D.loose ?_ ?_ w4.heap.size ⟨dev, blk, data, false⟩ 70 ?_ ?_ hm2 ?_ ?_; (· simp [Act.eval]); (· exact rowDrew (hr24.alloc _)); (· simp [Act.eval]); (· exact (at_alloc w4 _ _).drew); (· rw [World.size_drew, World.size_alloc]; omega); intro g6 cap6 w6 hown6 hgrow6 hat6; have h6 := (h4'.alloc _).drew.grown hgrow6 hsep.l; have hf6 := h6.frozen; obtain ⟨k0, k1, k2, k3, k4, k5⟩ := dsk_cells h6)
    all_goals
      go_wp2_with fail
      go_ret
      refine ⟨rfl, write_fin (w1 := w1) hsep.s hsep.l hsep.sl HVL.out hb1 h4' hr34 ?_ hf4 hsz hbase ?_ hown6 hgrow6 hat6⟩
      · rw [HPL.out]; exact rowBase hr44 (by simp)
      · omega

end Go.Proofs.Ytjgnheelcbkahaa.dk
