/-
  Write and Spoil of the document's disk.
-/
import Derived.Test.YtjgnheelcbkahaaDkF
namespace Go.Proofs.Ytjgnheelcbkahaa.dk
open Go.RowKit

set_option maxHeartbeats 2000000 in
theorem ref_write_no (w : World) (b : Nat) (vd : Value) (safe left : Int) (st : Bool) (steps : Int) (dev blk : Int) (data : ByteArray) (hA : At w b (refCells vd safe left st steps) 68) (hs : 0 ≤ steps ∧ steps < 4611686018427387904) (hl : left ≤ 9223372036854775807) (hno : stepNo left st = true ∨ okArgs dev blk data = false) :
    Calls Try.prog 16 #[.pointer (some ⟨b, 0, none⟩), .int .i64 dev, .int .i64 blk, .string data] w fun e w' => e = .returned (.bool false) ∧ At w' b (refCells vd safe (stepL left st) (stepNo left st) (steps + 1)) 68 ∧ Fr [b] w w' := by
  have hc := ref_step w b vd safe left st steps hA hs hl
  clear hA hs hl
  go_enter Try.func16, Try.ntmps16
  go_wp2_with fail
  refine hc.mono ?_
  rintro e w' ⟨rfl, h1, h2⟩
  have H1 : Hid (At w' b (refCells vd safe (stepL left st) (stepNo left st) (steps + 1)) 68 ∧ Fr [b] w w') := ⟨h1, h2⟩
  clear h1 h2 hc
  by_cases hn : stepNo left st = true
  · clear hno
    go_wp2_with fail
    go_ret
    exact ⟨rfl, H1.out.1, H1.out.2⟩
  · have hn' : stepNo left st = false := by simpa using hn
    have ho : okArgs dev blk data = false := by
      rcases hno with h | h
      · exact absurd h hn
      · exact h
    have ho2 : dev < 0 ∨ 9 ≤ dev ∨ blk < 0 ∨ 4096 ≤ blk ∨ (2048 : Int) < (data.size : Int) := by
      unfold okArgs at ho
      simp only [Bool.and_eq_false_iff, decide_eq_false_iff_not] at ho
      omega
    clear hno hn ho
    by_cases c1 : dev < 0
    · clear ho2
      go_wp2_with fail
      go_ret
      exact ⟨rfl, H1.out.1, H1.out.2⟩
    by_cases c2 : 9 ≤ dev
    · clear ho2
      go_wp2_with fail
      go_ret
      exact ⟨rfl, H1.out.1, H1.out.2⟩
    by_cases c3 : blk < 0
    · clear ho2
      go_wp2_with fail
      go_ret
      exact ⟨rfl, H1.out.1, H1.out.2⟩
    by_cases c4 : 4096 ≤ blk
    · clear ho2
      go_wp2_with fail
      go_ret
      exact ⟨rfl, H1.out.1, H1.out.2⟩
    have c5 : (2048 : Int) < (data.size : Int) := by omega
    clear ho2
    go_wp2_with fail
    go_ret
    exact ⟨rfl, H1.out.1, H1.out.2⟩

/-- a deed more -/
theorem deed_fin {w w1 w6 : World} {base b : Nat} {vd : Value} {l : List Cel} {c : Cel} {g6 cap6 : Nat} {X : Obj} {safe left : Int} {st : Bool} {steps : Int} (hsep : vd.ownBlock ≠ some b) (hb1 : b < w1.heap.size) (h1 : At w1 b (refCells vd safe left st steps) 68) (hf : Fr [b] w w1)
    (hown6 : w6.ownsRow base 73 4 (.slice (some ⟨g6, 0, none⟩) (l.length + 1) cap6) (l ++ [c]).length (cellsOf (l ++ [c]))) (hgrow6 : (w1.alloc X).grownBy w6 vd.ownBlock) (hat6 : vd.ownBlock = some g6 ∨ g6 = (w1.alloc X).heap.size) :
    ∃ vd', At (w6.setCell ⟨b, 0, none⟩ (.slice (some ⟨g6, 0, none⟩) (l.length + 1) cap6)) b (refCells vd' safe left st steps) 68 ∧ (w6.setCell ⟨b, 0, none⟩ (.slice (some ⟨g6, 0, none⟩) (l.length + 1) cap6)).ownsRow base 73 4 vd' (l ++ [c]).length (cellsOf (l ++ [c])) ∧ Fr (b :: vd.ownBlock.toList) w (w6.setCell ⟨b, 0, none⟩ (.slice (some ⟨g6, 0, none⟩) (l.length + 1) cap6)) ∧ (vd'.ownBlock = vd.ownBlock ∨ New w vd') := by
  have hg6 : ∀ k, (Value.slice (some ⟨g6, 0, none⟩) (l.length + 1) cap6).ownBlock = some k → k = g6 := fun k h => by simpa [Value.ownBlock] using h.symm
  have hsize : (w1.alloc X).heap.size = w1.heap.size + 1 := by simp
  have h6 := (h1.alloc X).grown hgrow6 hsep
  have hsz := hf.size
  have hgb : (Value.slice (some ⟨g6, 0, none⟩) (l.length + 1) cap6).ownBlock ≠ some b := fun h => by
    have e := hg6 b h
    rcases hat6 with h1 | h1
    · exact hsep (by rw [h1, e])
    · omega
  refine ⟨.slice (some ⟨g6, 0, none⟩) (l.length + 1) cap6, h6.set 0 _, rowSetOther hown6 b 0 hgb _, ?_, ?_⟩
  · have hS : Fr (b :: vd.ownBlock.toList) w w1 := hf.mono (fun k _ hk => by simp at hk; simp [hk])
    exact ((hS.alloc X).grown hgrow6 (fun k hk => .inl (by simp [hk]))).setCell _ (.inl (by simp)) _
  · rcases hat6 with h1 | h1
    · exact .inl h1.symm
    · refine .inr (fun k hk => ?_)
      have e := hg6 k hk
      omega

set_option maxHeartbeats 2000000 in
theorem ref_write_yes (w : World) (base b : Nat) (vd : Value) (safe left : Int) (st : Bool) (steps : Int) (l : List Cel) (dev blk : Int) (data : ByteArray) (hA : At w b (refCells vd safe left st steps) 68) (hR : w.ownsRow base 73 4 vd l.length (cellsOf l)) (hs : 0 ≤ steps ∧ steps < 4611686018427387904) (hl : left ≤ 9223372036854775807) (hn : stepNo left st = false) (ho : okArgs dev blk data = true) (hm : l.length < 1073741824)
    (hsep : vd.ownBlock ≠ some b) (hbase : base ≤ w.heap.size) :
    Calls Try.prog 16 #[.pointer (some ⟨b, 0, none⟩), .int .i64 dev, .int .i64 blk, .string data] w fun e w' => e = .returned (.bool true) ∧ ∃ vd', At w' b (refCells vd' safe (stepL left st) false (steps + 1)) 68 ∧ w'.ownsRow base 73 4 vd' (l ++ [(⟨dev, blk, data, false⟩ : Cel)]).length (cellsOf (l ++ [⟨dev, blk, data, false⟩])) ∧ Fr (b :: vd.ownBlock.toList) w w' ∧ (vd'.ownBlock = vd.ownBlock ∨ New w vd') := by
  have hc := ref_step w b vd safe left st steps hA hs hl
  clear hA hs hl
  have ho2 : 0 ≤ dev ∧ dev < 9 ∧ 0 ≤ blk ∧ blk < 4096 ∧ (data.size : Int) ≤ 2048 := by
    unfold okArgs at ho
    simp only [Bool.and_eq_true, decide_eq_true_eq] at ho
    omega
  obtain ⟨o1, o2, o3, o4, o5⟩ := ho2
  clear ho
  go_enter Try.func16, Try.ntmps16
  go_wp2_with fail
  refine hc.mono ?_
  rintro e w1 ⟨rfl, h1, h2⟩
  have hR1 := h2.row hR (fun k hk => by simp; intro h; exact hsep (by rw [hk, h]))
  rw [hn] at h1
  have hb1 := h1.lt
  obtain ⟨c0, c1, c2, c3, c4⟩ := ref_cells h1
  have hf := h1.frozen
  have hsz := h2.size
  clear hc hR
  go_wp2_with (at_builtin; refine wpList_app4 _ rfl (.tmp 39) (.tmp 44) 66 rfl base 73 Try.underlying66 Try.infoDeed vd l rfl (hR1.alloc _) w1.heap.size ⟨dev, blk, data, false⟩ 73 rfl (at_alloc _ _ _) hm (by simp; omega) ?_; intro g6 cap6 w6 hown6 hgrow6 hat6; have h6 := (h1.alloc _).grown hgrow6 hsep; have hf6 := h6.frozen; obtain ⟨k0, k1, k2, k3, k4⟩ := ref_cells h6)
  go_ret
  exact ⟨rfl, deed_fin hsep hb1 h1 h2 hown6 hgrow6 hat6⟩

/-- the document's Spoil -/
def refSpoilL (l : List Cel) (dev blk : Int) : List Cel := if noBytes (blockL l dev blk).1 then l else if (blockL l dev blk).2 then l ++ [⟨dev, blk, ByteArray.empty, true⟩] else l

set_option maxHeartbeats 2000000 in
theorem ref_spoil (w : World) (base b : Nat) (vd : Value) (safe left : Int) (st : Bool) (steps : Int) (l : List Cel) (dev blk : Int) (hA : At w b (refCells vd safe left st steps) 68) (hR : w.ownsRow base 73 4 vd l.length (cellsOf l)) (hm : l.length < 1073741824)
    (hsep : vd.ownBlock ≠ some b) (hbase : base ≤ w.heap.size) :
    Calls Try.prog 29 #[.pointer (some ⟨b, 0, none⟩), .int .i64 dev, .int .i64 blk] w fun e w' => e = .returned (.tuple #[]) ∧ ∃ vd', At w' b (refCells vd' safe left st steps) 68 ∧ w'.ownsRow base 73 4 vd' (refSpoilL l dev blk).length (cellsOf (refSpoilL l dev blk)) ∧ Fr (b :: vd.ownBlock.toList) w w' ∧ (vd'.ownBlock = vd.ownBlock ∨ New w vd') := by
  have hc := ref_block w base b vd safe left st steps l dev blk hA hR (by omega)
  unfold refSpoilL
  generalize blockL l dev blk = q at *
  obtain ⟨q1, q2⟩ := q
  cases hb : noBytes q1 with
  | true =>
    have hb2 : q1.toList.isEmpty = true := hb
    clear hb
    go_enter Try.func29, Try.ntmps29
    go_wp2_with fail
    refine hc.mono ?_
    rintro e w1 ⟨rfl, hw⟩
    clear hc
    go_wp2_with fail
    go_end0
    exact ⟨rfl, vd, hw.at hA (by simp), hw.row hR (by simp), hw.nil, .inl rfl⟩
  | false =>
    have hb2 : q1.toList.isEmpty = false := hb
    clear hb
    cases q2
    · go_enter Try.func29, Try.ntmps29
      go_wp2_with fail
      refine hc.mono ?_
      rintro e w1 ⟨rfl, hw⟩
      clear hc
      go_wp2_with fail
      go_end0
      exact ⟨rfl, vd, hw.at hA (by simp), hw.row hR (by simp), hw.nil, .inl rfl⟩
    · go_enter Try.func29, Try.ntmps29
      go_wp2_with fail
      refine hc.mono ?_
      rintro e w1 ⟨rfl, hw⟩
      have h1 := hw.at hA (by simp)
      have hR1 := hw.row hR (by simp)
      have hb1 := h1.lt
      obtain ⟨c0, c1, c2, c3, c4⟩ := ref_cells h1
      have hf := h1.frozen
      have hsz := hw.size
      clear hc hR hA
      go_wp2_with (at_builtin; refine wpList_app4 _ rfl (.tmp 24) (.tmp 28) 66 rfl base 73 Try.underlying66 Try.infoDeed vd l rfl (hR1.alloc _) w1.heap.size ⟨dev, blk, ByteArray.empty, true⟩ 73 rfl (at_alloc _ _ _) hm (by simp; omega) ?_; intro g6 cap6 w6 hown6 hgrow6 hat6; have h6 := (h1.alloc _).grown hgrow6 hsep; have hf6 := h6.frozen; obtain ⟨k0, k1, k2, k3, k4⟩ := ref_cells h6)
      go_end0
      have hfin := deed_fin hsep hb1 h1 (hw.nil (S := [b])) hown6 hgrow6 hat6
      rw [List.length_append] at hfin
      exact ⟨rfl, hfin⟩

end Go.Proofs.Ytjgnheelcbkahaa.dk
