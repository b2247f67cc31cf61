/-
  Harmed of disk.Disk.
-/
import Derived.Test.YtjgnheelcbkahaaDkH
namespace Go.Proofs.Ytjgnheelcbkahaa.dk
open Go.RowKit

theorem Try.infoInt : (Try.prog.info? 3).map (fun i => (i.zero, i.size, i.bytes)) = some (some (.int .i64 0), 1, 8) := by kernel_rfl

/-- is a block of device k not whole? -/
def badDev (l : List Cel) (k : Nat) : Bool := l.any fun c => c.dev == (k : Int) && c.sp
/-- the devices up to k of which a block is not whole -/
def harmedTo (p : Nat → Bool) (k : Nat) : List Int := ((List.range k).filter p).map fun (i : Nat) => (i : Int)

theorem harmedTo_succ (p : Nat → Bool) (k : Nat) : harmedTo p (k + 1) = harmedTo p k ++ if p k then [(k : Int)] else [] := by
  simp only [harmedTo, List.range_succ, List.filter_append, List.map_append]
  cases h : p k <;> simp [h]
theorem harmedTo_le (p : Nat → Bool) (k : Nat) : (harmedTo p k).length ≤ k := by
  simp only [harmedTo, List.length_map]
  exact Nat.le_trans (List.length_filter_le _ _) (by simp)

theorem badDev_take {l : List Cel} {j : Nat} {c : Cel} {k : Nat} (h : badDev (l.take j) k = false) (hc : l[j]? = some c) (hp : (c.dev == (k : Int) && c.sp) = false) : badDev (l.take (j + 1)) k = false := by
  simp only [badDev, List.take_add_one, hc, List.any_append] at h ⊢
  simp [h, hp]
theorem badDev_yes {l : List Cel} {j : Nat} {c : Cel} {k : Nat} (hc : l[j]? = some c) (hp : (c.dev == (k : Int) && c.sp) = true) : badDev l k = true := by
  simp only [badDev, List.any_eq_true]
  exact ⟨c, List.mem_of_getElem? hc, hp⟩

set_option maxHeartbeats 4000000 in
theorem dsk_harmed (w : World) (base b : Nat) (vs vn vl : Value) (D : Dsk) (hD : DiskAt w base b vs vn vl D) (hm : D.now.length < 1073741824) :
    Calls Try.prog 32 #[.pointer (some ⟨b, 0, none⟩)] w fun e w' => ∃ v', e = .returned v' ∧ w'.ownsRow w.heap.size 3 1 v' (harmedTo (badDev D.now) 9).length (intsOf (harmedTo (badDev D.now) 9)) ∧ Fr [] w w' := by
  have hbl := hD.blk.lt
  obtain ⟨a, cap, rfl, hle, hmx, hcell⟩ := row4' hD.now
  obtain ⟨c0, c1, c2, c3, c4, c5⟩ := dsk_cells hD.blk
  have HC0 : Hid (w.cell? ⟨b, 1, none⟩ = some (.slice a D.now.length cap)) := c1
  generalize D.now = l at *
  clear hD c0 c1 c2 c3 c4 c5
  go_enter Try.func32, Try.ntmps32
  go_wp2_with fail
  go_loopw [3, 7] (fun o x wr => ∃ k : Nat, x = .int .i64 k ∧ k ≤ 9 ∧ wr.ownsRow w.heap.size 3 1 o (harmedTo (badDev l) k).length (intsOf (harmedTo (badDev l) k)) ∧ Fr [] w wr) (fun _ x _ => 9 - (intOf x).toNat)
  case atStart => exact ⟨0, rfl, by decide, World.ownsRow_nil _ _ _ _, Fr.refl _ _⟩
  case round =>
    obtain ⟨k, rfl, hk, hown, hw⟩ := hrel
    have HC : Hid (wr.cell? ⟨b, 1, none⟩ = some (.slice a l.length cap)) := by
      show _ = _
      rw [hw.below.cell (p := ⟨b, 1, none⟩) hbl]
      exact HC0.out
    by_cases hlt : k < 9
    · have c1 := HC.out
      go_wp2_with fail
      go_loopw [3, 15] (fun o x wx => ∃ j : Nat, x = .int .i64 j ∧ j ≤ l.length ∧ o = u3 ∧ badDev (l.take j) k = false ∧ wx.ownsRow w.heap.size 3 1 u3 (harmedTo (badDev l) k).length (intsOf (harmedTo (badDev l) k)) ∧ Fr [] w wx) (fun _ x _ => l.length - (intOf x).toNat)
      case atStart => exact ⟨0, rfl, Nat.zero_le _, rfl, rfl, hown, hw⟩
      case round =>
        obtain ⟨j, rfl, hj, rfl, hno, hown2, hw2⟩ := hrel
        have HNO : Hid (badDev (l.take j) k = false) := hno
        have HH : Hid (harmedTo (badDev l) (k + 1) = harmedTo (badDev l) k ++ if badDev l k then [(k : Int)] else []) := harmedTo_succ (badDev l) k
        have hql := harmedTo_le (badDev l) k
        have hszw := hw2.size
        generalize harmedTo (badDev l) k = q at *
        clear hno hown c1 HC hw
        by_cases hjl : j < l.length
        · obtain ⟨c, hc⟩ : ∃ c, l[j]? = some c := ⟨l[j], List.getElem?_eq_getElem hjl⟩
          obtain ⟨g, rfl, hbg, hgl, d0, d1, d2, d3⟩ := hcell j c hc
          rw [← hw2.below.cell (p := ⟨g, j * 4, none⟩) hgl] at d0
          rw [← hw2.below.cell (p := ⟨g, j * 4 + 1, none⟩) hgl] at d1
          rw [← hw2.below.cell (p := ⟨g, j * 4 + 2, none⟩) hgl] at d2
          rw [← hw2.below.cell (p := ⟨g, j * 4 + 3, none⟩) hgl] at d3
          have hgw : g < wr.heap.size := Nat.lt_of_lt_of_le hgl hw2.size
          have HC : Hid (l[j]? = some c) := hc
          clear hc hcell
          obtain ⟨cd, cb, cx, cs⟩ := c
          by_cases h1 : cd = (k : Int)
          · cases cs
            · have e1 : (cd == (k : Int)) = true := by simpa using h1
              have HB : Hid (badDev (l.take (j + 1)) k = false) := badDev_take HNO.out HC.out (by simp)
              clear h1 HNO
              go_wp2_with fail
              exact ⟨⟨j + 1, by go_num, hjl, rfl, HB.out, hown2.alloc _, hw2.alloc _⟩, by simp [intOf]; omega⟩
            · subst h1
              have HH2 : Hid (harmedTo (badDev l) (k + 1) = q ++ [(k : Int)]) := by
                have e2 : badDev l k = true := badDev_yes HC.out (by simp)
                show _ = _
                rw [HH.out, e2]; rfl
              clear HH HNO HC
              go_wp2_with (at_builtin; refine wpList_app1 _ rfl (.tmp 27) (.tmp 29) 30 rfl w.heap.size 3 Try.underlying30 Try.infoInt u3 q rfl ((hown2.alloc _).alloc _) (wr.heap.size + 1) (k : Int) 3 rfl (at_alloc2 _ _ _ _) (by omega) (by simp; omega) ?_; intro g2 cap2 w2 hown3 hgrow3 hat3)
              exact ⟨⟨k + 1, by go_num, hlt, by rw [HH2.out]; exact hown3, ((hw2.alloc _).alloc _).grown hgrow3 (fun i h => .inr (by have := (hown2.lt _ h).1; omega))⟩, by simp [intOf]; omega⟩
          · have e1 : (cd == (k : Int)) = false := by simpa using h1
            have HB : Hid (badDev (l.take (j + 1)) k = false) := badDev_take HNO.out HC.out (by simp [h1])
            clear h1 HNO
            go_wp2_with fail
            exact ⟨⟨j + 1, by go_num, hjl, rfl, HB.out, hown2.alloc _, hw2.alloc _⟩, by simp [intOf]; omega⟩
        · obtain rfl : j = l.length := by omega
          have HH2 : Hid (harmedTo (badDev l) (k + 1) = q) := by
            have e2 := HNO.out
            rw [List.take_length] at e2
            show _ = _
            rw [HH.out, e2]; simp
          clear HH hcell
          go_wp2_with fail
          exact ⟨⟨k + 1, by go_num, hlt, by rw [HH2.out]; exact hown2, hw2⟩, by simp [intOf]; omega⟩
    · obtain rfl : k = 9 := by omega
      clear hcell
      go_wp2_with fail
      go_ret
      exact ⟨_, rfl, hown, hw⟩

end Go.Proofs.Ytjgnheelcbkahaa.dk
