/-
  Bytes and Harmed of the document's disk.
-/
import Derived.Test.YtjgnheelcbkahaaDkJ
namespace Go.Proofs.Ytjgnheelcbkahaa.dk
open Go.RowKit

/-- the bytes of some blocks -/
def refBytesL (l : List Cel) (t : List Cel) : Nat := (t.map fun x => (blockL l x.dev x.blk).1.size).sum

theorem refBytesL_take {l t : List Cel} {k : Nat} {c : Cel} (hc : t[k]? = some c) : refBytesL l (t.take (k + 1)) = refBytesL l (t.take k) + (blockL l c.dev c.blk).1.size := by
  simp [refBytesL, List.take_add_one, hc]
theorem refBytesL_le (l t : List Cel) (k : Nat) : refBytesL l (t.take k) ≤ refBytesL l t := by
  have e : refBytesL l t = refBytesL l (t.take k) + refBytesL l (t.drop k) := by
    conv => lhs; rw [← List.take_append_drop k t]
    unfold refBytesL
    rw [List.map_append, List.sum_append_nat]
  omega

set_option maxHeartbeats 4000000 in
theorem ref_bytes (w : World) (base b : Nat) (vd : Value) (safe left : Int) (st : Bool) (steps : Int) (l : List Cel) (hA : At w b (refCells vd safe left st steps) 68) (hR : w.ownsRow base 73 4 vd l.length (cellsOf l)) (hm : l.length < 1073741824) (hb : refBytesL l (toldL l) < 4611686018427387904) :
    Calls Try.prog 31 #[.pointer (some ⟨b, 0, none⟩)] w fun e w' => e = .returned (.int .i64 (refBytesL l (toldL l))) ∧ Fr [] w w' := by
  have hc := ref_told w base b vd safe left st steps l hA hR hm
  have htl : (toldL l).length ≤ l.length := by have := toldL_le l l.length; rwa [List.take_length] at this
  have HA : Hid (At w b (refCells vd safe left st steps) 68) := hA
  have HR : Hid (w.ownsRow base 73 4 vd l.length (cellsOf l)) := hR
  clear hA hR
  generalize toldL l = t at *
  go_enter Try.func31, Try.ntmps31
  go_wp2_with fail
  refine hc.mono ?_
  rintro e w1 ⟨v1, rfl, hown1, hfr1⟩
  obtain ⟨a1, cap1, rfl, hle1, hmx1, hcell1⟩ := row4' hown1
  clear hc hown1
  go_wp2_with fail
  go_loopw [3, 5] (fun n x wr => ∃ k : Nat, n = .int .i64 (refBytesL l (t.take k)) ∧ x = .int .i64 k ∧ k ≤ t.length ∧ Fr [] w1 wr) (fun _ x _ => t.length - (intOf x).toNat)
  case atStart => exact ⟨0, rfl, rfl, Nat.zero_le _, Fr.refl _ _⟩
  case round =>
    obtain ⟨k, rfl, rfl, hk, hw⟩ := hrel
    by_cases hlt : k < t.length
    · obtain ⟨c, hc⟩ : ∃ c, t[k]? = some c := ⟨t[k], List.getElem?_eq_getElem hlt⟩
      obtain ⟨g, rfl, hbg, hgl, d0, d1, d2, d3⟩ := hcell1 k c hc
      have hb2 := refBytesL_take (l := l) hc
      have hb3 := refBytesL_le l t (k + 1)
      rw [← hw.below.cell (p := ⟨g, k * 4, none⟩) hgl] at d0
      rw [← hw.below.cell (p := ⟨g, k * 4 + 1, none⟩) hgl] at d1
      rw [← hw.below.cell (p := ⟨g, k * 4 + 2, none⟩) hgl] at d2
      rw [← hw.below.cell (p := ⟨g, k * 4 + 3, none⟩) hgl] at d3
      have HB : Hid (refBytesL l (t.take (k + 1)) = refBytesL l (t.take k) + (blockL l c.dev c.blk).1.size) := hb2
      have hb4 : refBytesL l (t.take k) + (blockL l c.dev c.blk).1.size < 4611686018427387904 := by omega
      have hcal := fun (W : World) h1 h2 => ref_block W base b vd safe left st steps l c.dev c.blk h1 h2 (by omega)
      have HCAL := hcal
      generalize refBytesL l (t.take k) = q at *
      generalize blockL l c.dev c.blk = z at *
      obtain ⟨z1, z2⟩ := z
      have HX : Hid (∀ W : World, At W b (refCells vd safe left st steps) 68 → W.ownsRow base 73 4 vd l.length (cellsOf l) → Calls Try.prog 49 #[.pointer (some ⟨b, 0, none⟩), .int .i64 c.dev, .int .i64 c.blk] W fun e w' => e = .returned (.tuple #[.string z1, .bool z2]) ∧ Fr [] W w') := hcal
      clear hc hcell1 hb2 hb3 hcal HCAL
      go_wp2_with fail
      go_region_with (go_at_call 49; refine (HX.out _ ?_ ?_).mono ?_; (· exact ((hfr1.trans hw).at HA.out (by simp)).drew); (· exact rowDrew ((hfr1.trans hw).row HR.out (by simp))); intro e w2 hq; obtain ⟨he, hfr2⟩ := hq; subst he)
      all_goals
        go_wp2_with fail
        exact ⟨⟨k + 1, by rw [HB.out]; go_num, by go_num, hlt, hw.drew.trans hfr2⟩, by simp [intOf]; omega⟩
    · obtain rfl : k = t.length := by omega
      have HT : Hid (t.take t.length = t) := List.take_length
      clear hcell1
      go_wp2_with fail
      go_ret
      rw [HT.out]
      exact ⟨rfl, hfr1.trans hw⟩

/-- is one of these blocks of device k not whole? -/
def refBad (l t : List Cel) (k : Nat) : Bool := t.any fun x => x.dev == (k : Int) && !(blockL l (k : Int) x.blk).2

theorem refBad_take {l t : List Cel} {j : Nat} {c : Cel} (k : Nat) (hc : t[j]? = some c) : refBad l (t.take (j + 1)) k = (refBad l (t.take j) k || (c.dev == (k : Int) && !(blockL l (k : Int) c.blk).2)) := by
  simp [refBad, List.take_add_one, hc]

set_option maxHeartbeats 4000000 in
theorem ref_harmed (w : World) (base b : Nat) (vd : Value) (safe left : Int) (st : Bool) (steps : Int) (l : List Cel) (hA : At w b (refCells vd safe left st steps) 68) (hR : w.ownsRow base 73 4 vd l.length (cellsOf l)) (hm : l.length < 1073741824) :
    Calls Try.prog 33 #[.pointer (some ⟨b, 0, none⟩)] w fun e w' => ∃ v', e = .returned v' ∧ w'.ownsRow w.heap.size 3 1 v' (harmedTo (refBad l (toldL l)) 9).length (intsOf (harmedTo (refBad l (toldL l)) 9)) ∧ Fr [] w w' := by
  have hc := ref_told w base b vd safe left st steps l hA hR hm
  have htl : (toldL l).length ≤ l.length := by have := toldL_le l l.length; rwa [List.take_length] at this
  have HA : Hid (At w b (refCells vd safe left st steps) 68) := hA
  have HR : Hid (w.ownsRow base 73 4 vd l.length (cellsOf l)) := hR
  clear hA hR
  generalize toldL l = t at *
  go_enter Try.func33, Try.ntmps33
  go_wp2_with fail
  refine hc.mono ?_
  rintro e w1 ⟨v1, rfl, hown1, hfr1⟩
  obtain ⟨a1, cap1, rfl, hle1, hmx1, hcell1⟩ := row4' hown1
  clear hc hown1
  have hsz1 := hfr1.size
  go_wp2_with fail
  go_loopw [3, 5] (fun o x wr => ∃ k : Nat, x = .int .i64 k ∧ k ≤ 9 ∧ wr.ownsRow w1.heap.size 3 1 o (harmedTo (refBad l t) k).length (intsOf (harmedTo (refBad l t) k)) ∧ Fr [] w1 wr) (fun _ x _ => 9 - (intOf x).toNat)
  case atStart => exact ⟨0, rfl, by decide, World.ownsRow_nil _ _ _ _, Fr.refl _ _⟩
  case round =>
    obtain ⟨k, rfl, hk, hown, hw⟩ := hrel
    by_cases hlt : k < 9
    · have HH : Hid (harmedTo (refBad l t) (k + 1) = harmedTo (refBad l t) k ++ if refBad l t k then [(k : Int)] else []) := harmedTo_succ (refBad l t) k
      have hql := harmedTo_le (refBad l t) k
      generalize harmedTo (refBad l t) k = q at *
      have hdec : decide ((k : Int) < 9) = true := by simp; omega
      go_wp2_with fail
      go_loopw [6, 7] (fun f x wx => ∃ j : Nat, f = .bool (refBad l (t.take j) k) ∧ x = .int .i64 j ∧ j ≤ t.length ∧ wx.ownsRow w1.heap.size 3 1 u3 q.length (intsOf q) ∧ Fr [] w1 wx) (fun _ x _ => t.length - (intOf x).toNat)
      case atStart => exact ⟨0, rfl, rfl, Nat.zero_le _, hown, hw⟩
      case round =>
        obtain ⟨j, rfl, rfl, hj, hown2, hw2⟩ := hrel
        have hszw := hw2.size
        clear hown hw
        by_cases hjl : j < t.length
        · obtain ⟨c, hc⟩ : ∃ c, t[j]? = some c := ⟨t[j], List.getElem?_eq_getElem hjl⟩
          obtain ⟨g, rfl, hbg, hgl, d0, d1, d2, d3⟩ := hcell1 j c hc
          rw [← hw2.below.cell (p := ⟨g, j * 4, none⟩) hgl] at d0
          rw [← hw2.below.cell (p := ⟨g, j * 4 + 1, none⟩) hgl] at d1
          have HB : Hid (refBad l (t.take (j + 1)) k = (refBad l (t.take j) k || (c.dev == (k : Int) && !(blockL l (k : Int) c.blk).2))) := refBad_take k hc
          have hcal := ref_block wr base b vd safe left st steps l (k : Int) c.blk ((hfr1.trans hw2).at HA.out (by simp)) ((hfr1.trans hw2).row HR.out (by simp)) (by omega)
          generalize refBad l (t.take j) k = f at *
          generalize blockL l (k : Int) c.blk = z at *
          obtain ⟨z1, z2⟩ := z
          clear hc hcell1 d2 d3
          by_cases h1 : c.dev = (k : Int)
          · have e7 : (c.dev == (k : Int)) = true := by simpa using h1
            have HB2 : Hid (refBad l (t.take (j + 1)) k = (f || !z2)) := by show _ = _; rw [HB.out, e7]; rfl
            clear HB h1
            go_wp2_with fail
            refine hcal.mono ?_
            rintro e w2 ⟨rfl, hfr2⟩
            clear hcal
            have hown3 := hfr2.row hown2 (by simp)
            have hw3 := hw2.trans hfr2
            cases f
            · go_wp2_with fail
              exact ⟨⟨j + 1, by rw [HB2.out]; rfl, by go_num, hjl, hown3, hw3⟩, by simp [intOf]; omega⟩
            · go_wp2_with fail
              exact ⟨⟨j + 1, by rw [HB2.out]; rfl, by go_num, hjl, hown3, hw3⟩, by simp [intOf]; omega⟩
          · have e7 : (c.dev == (k : Int)) = false := by simpa using h1
            have HB2 : Hid (refBad l (t.take (j + 1)) k = f) := by show _ = _; rw [HB.out, e7]; simp
            clear HB h1 hcal
            go_wp2_with fail
            exact ⟨⟨j + 1, by rw [HB2.out], by go_num, hjl, hown2, hw2⟩, by simp [intOf]; omega⟩
        · obtain rfl : j = t.length := by omega
          have HT : Hid (t.take t.length = t) := List.take_length
          rw [HT.out]
          clear hcell1
          cases hh : refBad l t k with
          | false =>
            have HH2 : Hid (harmedTo (refBad l t) (k + 1) = q) := by show _ = _; rw [HH.out, hh]; simp
            clear HH hh
            go_wp2_with fail
            exact ⟨⟨k + 1, by go_num, hlt, by rw [HH2.out]; exact hown2, hw2⟩, by simp [intOf]; omega⟩
          | true =>
            have HH2 : Hid (harmedTo (refBad l t) (k + 1) = q ++ [(k : Int)]) := by show _ = _; rw [HH.out, hh]; rfl
            clear HH hh
            go_wp2_with (at_builtin; refine wpList_app1 _ rfl (.tmp 46) (.tmp 48) 30 rfl w1.heap.size 3 Try.underlying30 Try.infoInt u3 q rfl (hown2.alloc _) wr.heap.size (k : Int) 3 rfl (at_alloc _ _ _) (by omega) (by simp; omega) ?_; intro g2 cap2 w2 hown3 hgrow3 hat3)
            exact ⟨⟨k + 1, by go_num, hlt, by rw [HH2.out]; exact hown3, (hw2.alloc _).grown hgrow3 (fun i h => .inr (by have := (hown2.lt _ h).1; omega))⟩, by simp [intOf]; omega⟩
    · obtain rfl : k = 9 := by omega
      clear hcell1
      go_wp2_with fail
      go_ret
      exact ⟨_, rfl, rowBase hown hsz1, hfr1.trans hw⟩

end Go.Proofs.Ytjgnheelcbkahaa.dk
