/-
  told, Bytes and Harmed of the document's disk.
-/
import Derived.Test.YtjgnheelcbkahaaDkI
namespace Go.Proofs.Ytjgnheelcbkahaa.dk
open Go.RowKit

/-- each block that was ever written, once -/
def toldStep (out : List Cel) (x : Cel) : List Cel := if hasL out x.dev x.blk then out else out ++ [x]
def toldL (l : List Cel) : List Cel := l.foldl toldStep []

theorem toldL_take {l : List Cel} {k : Nat} {c : Cel} (hc : l[k]? = some c) : toldL (l.take (k + 1)) = toldStep (toldL (l.take k)) c := by
  simp [toldL, List.take_add_one, hc]
theorem toldFold_le (l : List Cel) (o : List Cel) : (l.foldl toldStep o).length ≤ o.length + l.length := by
  induction l generalizing o with
  | nil => simp
  | cons c l ih =>
    simp only [List.foldl_cons, List.length_cons]
    have h1 := ih (toldStep o c)
    have h2 : (toldStep o c).length ≤ o.length + 1 := by unfold toldStep; split <;> simp
    omega
theorem toldL_le (l : List Cel) (k : Nat) : (toldL (l.take k)).length ≤ k := by
  have h := toldFold_le (l.take k) []
  have h2 := List.length_take_le k l
  simp only [List.length_nil, Nat.zero_add] at h
  unfold toldL
  omega

set_option maxHeartbeats 4000000 in
theorem ref_told (w : World) (base b : Nat) (vd : Value) (safe left : Int) (st : Bool) (steps : Int) (l : List Cel) (hA : At w b (refCells vd safe left st steps) 68) (hR : w.ownsRow base 73 4 vd l.length (cellsOf l)) (hm : l.length < 1073741824) :
    Calls Try.prog 51 #[.pointer (some ⟨b, 0, none⟩)] w fun e w' => ∃ v', e = .returned v' ∧ w'.ownsRow w.heap.size 73 4 v' (toldL l).length (cellsOf (toldL l)) ∧ Fr [] w w' := by
  have hbl := hA.lt
  obtain ⟨a, cap, rfl, hle, hmx, hcell⟩ := row4' hR
  obtain ⟨c0, c1, c2, c3, c4⟩ := ref_cells hA
  have HC0 : Hid (w.cell? ⟨b, 0, none⟩ = some (.slice a l.length cap)) := c0
  clear hA hR c0 c1 c2 c3 c4
  go_enter Try.func51, Try.ntmps51
  go_wp2_with fail
  go_loopw [3, 4] (fun o x wr => ∃ i : Nat, x = .int .i64 i ∧ i ≤ l.length ∧ wr.ownsRow w.heap.size 73 4 o (toldL (l.take i)).length (cellsOf (toldL (l.take i))) ∧ Fr [] w wr) (fun _ x _ => l.length - (intOf x).toNat)
  case atStart => exact ⟨0, rfl, Nat.zero_le _, World.ownsRow_nil _ _ _ _, Fr.refl _ _⟩
  case round =>
    obtain ⟨i, rfl, hi, hown, hw⟩ := hrel
    have HC : Hid (wr.cell? ⟨b, 0, none⟩ = some (.slice a l.length cap)) := by
      show _ = _
      rw [hw.below.cell (p := ⟨b, 0, none⟩) hbl]
      exact HC0.out
    by_cases hlt : i < l.length
    · obtain ⟨c, hc⟩ : ∃ c, l[i]? = some c := ⟨l[i], List.getElem?_eq_getElem hlt⟩
      have HT : Hid (toldL (l.take (i + 1)) = toldStep (toldL (l.take i)) c) := toldL_take hc
      have hql := toldL_le l i
      obtain ⟨g, rfl, hbg, hgl, D0, D1, D2, D3⟩ := hcell i c hc
      have HD : Hid (w.cell? ⟨g, i * 4, none⟩ = some (.int .i64 c.dev) ∧ w.cell? ⟨g, i * 4 + 1, none⟩ = some (.int .i64 c.blk) ∧ w.cell? ⟨g, i * 4 + 2, none⟩ = some (.string c.data) ∧ w.cell? ⟨g, i * 4 + 3, none⟩ = some (.bool c.sp)) := ⟨D0, D1, D2, D3⟩
      generalize toldL (l.take i) = q at *
      clear hc hcell D0 D1 D2 D3
      obtain ⟨a3, cap3, rfl, hle3, hmx3, _⟩ := row4' hown
      have c0 := HC.out
      go_wp2_with fail
      go_loopw [5, 6] (fun f x wx => ∃ k : Nat, f = .bool (hasL (q.take k) c.dev c.blk) ∧ x = .int .i64 k ∧ k ≤ q.length ∧ wx.ownsRow w.heap.size 73 4 (.slice a3 q.length cap3) q.length (cellsOf q) ∧ Fr [] w wx) (fun _ x _ => q.length - (intOf x).toNat)
      case atStart => exact ⟨0, rfl, rfl, Nat.zero_le _, hown, hw⟩
      case round =>
        obtain ⟨k, rfl, rfl, hk, hown2, hw2⟩ := hrel
        have hszw := hw2.size
        obtain ⟨D0, D1, D2, D3⟩ := HD.out
        have d0 : wr.cell? ⟨g, i * 4, none⟩ = _ := (hw2.below.cell (p := ⟨g, i * 4, none⟩) hgl).trans D0
        have d1 : wr.cell? ⟨g, i * 4 + 1, none⟩ = _ := (hw2.below.cell (p := ⟨g, i * 4 + 1, none⟩) hgl).trans D1
        have d2 : wr.cell? ⟨g, i * 4 + 2, none⟩ = _ := (hw2.below.cell (p := ⟨g, i * 4 + 2, none⟩) hgl).trans D2
        have d3 : wr.cell? ⟨g, i * 4 + 3, none⟩ = _ := (hw2.below.cell (p := ⟨g, i * 4 + 3, none⟩) hgl).trans D3
        have c0' : wr.cell? ⟨b, 0, none⟩ = _ := (hw2.below.cell (p := ⟨b, 0, none⟩) hbl).trans HC0.out
        clear D0 D1 D2 D3 c0 HC hown
        by_cases hkl : k < q.length
        · obtain ⟨x, hx⟩ : ∃ x, q[k]? = some x := ⟨q[k], List.getElem?_eq_getElem hkl⟩
          obtain ⟨a4, cap4, e4, _, _, hcell4⟩ := row4' hown2
          obtain ⟨g4, e5, hbg4, hgl4, x0, x1, x2, x3⟩ := hcell4 k x hx
          have e6 : a3 = some ⟨g4, 0, none⟩ := by
            simp only [Value.slice.injEq] at e4
            rw [e4.1, e5]
          subst e6
          have HH : Hid (hasL (q.take (k + 1)) c.dev c.blk = (hasL (q.take k) c.dev c.blk || x.is c.dev c.blk)) := hasL_take c.dev c.blk hx
          generalize hasL (q.take k) c.dev c.blk = f at *
          clear hx hcell4 e4 e5
          have hi1 : (0 : Int) ≤ (i : Int) := by omega
          have hi2 : (i : Int) < (l.length : Int) := by omega
          have hk1 : (0 : Int) ≤ (k : Int) := by omega
          have hk2 : (k : Int) < (q.length : Int) := by omega
          by_cases h1 : x.dev = c.dev
          · have e7 : (x.dev == c.dev) = true := by simpa using h1
            by_cases h2 : x.blk = c.blk
            · have e8 : (x.blk == c.blk) = true := by simpa using h2
              have HH2 : Hid (hasL (q.take (k + 1)) c.dev c.blk = true) := by show _ = _; rw [HH.out]; simp [Cel.is, e7, e8]
              clear HH h1 h2
              go_wp2_with fail
              go_quiet (fail)
              go_wp2_with fail
              exact ⟨⟨k + 1, by rw [HH2.out], by go_num, hkl, hown2, hw2.drewN _⟩, by simp [intOf]; omega⟩
            · have e8 : (x.blk == c.blk) = false := by simpa using h2
              have HH2 : Hid (hasL (q.take (k + 1)) c.dev c.blk = f) := by show _ = _; rw [HH.out]; simp [Cel.is, e7, e8]
              clear HH h1 h2
              go_wp2_with fail
              go_quiet (fail)
              go_wp2_with fail
              exact ⟨⟨k + 1, by rw [HH2.out], by go_num, hkl, hown2, hw2.drewN _⟩, by simp [intOf]; omega⟩
          · have e7 : (x.dev == c.dev) = false := by simpa using h1
            have HH2 : Hid (hasL (q.take (k + 1)) c.dev c.blk = f) := by show _ = _; rw [HH.out]; simp [Cel.is, e7]
            clear HH h1
            go_wp2_with fail
            go_quiet (fail)
            go_wp2_with fail
            exact ⟨⟨k + 1, by rw [HH2.out], by go_num, hkl, hown2, hw2.drewN _⟩, by simp [intOf]; omega⟩
        · obtain rfl : k = q.length := by omega
          have HT2 : Hid (q.take q.length = q) := List.take_length
          rw [HT2.out]
          cases hh : hasL q c.dev c.blk with
          | true =>
            have HT3 : Hid (toldL (l.take (i + 1)) = q) := by show _ = _; rw [HT.out]; unfold toldStep; rw [hh]; rfl
            clear hh HT
            go_wp2_with fail
            exact ⟨⟨i + 1, by go_num, hlt, by rw [HT3.out]; exact hown2, hw2⟩, by simp [intOf]; omega⟩
          | false =>
            have HT3 : Hid (toldL (l.take (i + 1)) = q ++ [c]) := by show _ = _; rw [HT.out]; unfold toldStep; rw [hh]; rfl
            clear hh HT
            go_wp2_with (at_builtin; refine wpList_app4 _ rfl (.tmp 54) (.tmp 62) 66 rfl w.heap.size 73 Try.underlying66 Try.infoDeed (.slice a3 q.length cap3) q rfl (hown2.alloc _) wr.heap.size c 73 rfl (at_alloc _ _ _) (by omega) (by simp; omega) ?_; intro g2 cap2 w2 hown3 hgrow3 hat3)
            exact ⟨⟨i + 1, by go_num, hlt, by rw [HT3.out]; exact hown3, (hw2.alloc _).grown hgrow3 (fun j h => .inr (by have := (hown2.lt _ h).1; omega))⟩, by simp [intOf]; omega⟩
    · obtain rfl : i = l.length := by omega
      have HT : Hid (l.take l.length = l) := List.take_length
      rw [HT.out] at hown
      obtain ⟨a3, cap3, rfl, hle3, hmx3, _⟩ := row4' hown
      have c0 := HC.out
      clear hcell
      go_wp2_with fail
      go_ret
      exact ⟨_, rfl, hown, hw⟩

end Go.Proofs.Ytjgnheelcbkahaa.dk
