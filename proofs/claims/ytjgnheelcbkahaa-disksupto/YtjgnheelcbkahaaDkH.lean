/-
  Spoil of disk.Disk.
-/
import Derived.Test.YtjgnheelcbkahaaDkG
namespace Go.Proofs.Ytjgnheelcbkahaa.dk
open Go.RowKit

/-- is there such a block? -/
def hasL (l : List Cel) (dev blk : Int) : Bool := l.any fun c => c.is dev blk
/-- what Spoil makes of a disk -/
def Dsk.spoilt (D : Dsk) (dev blk : Int) : Dsk := if hasL D.now dev blk then { D with safe := spoilL D.safe dev blk, now := spoilL D.now dev blk, loose := spoilL D.loose dev blk } else D

theorem hasL_take {l : List Cel} {k : Nat} {c : Cel} (dev blk : Int) (hc : l[k]? = some c) : hasL (l.take (k + 1)) dev blk = (hasL (l.take k) dev blk || c.is dev blk) := by
  simp [hasL, List.take_add_one, hc]

theorem spoilL_length (l : List Cel) (dev blk : Int) : (spoilL l dev blk).length = l.length := by simp [spoilL]

set_option maxHeartbeats 4000000 in
theorem dsk_spoil (w : World) (base b : Nat) (vs vn vl : Value) (D : Dsk) (dev blk : Int) (hD : DiskAt w base b vs vn vl D) (hm : D.now.length < 1073741824) (hm2 : D.loose.length < 1073741824) (hm3 : D.safe.length < 1073741824)
    (hsep : Sep b vs vn vl) (hbase : base ≤ w.heap.size) :
    Calls Try.prog 28 #[.pointer (some ⟨b, 0, none⟩), .int .i64 dev, .int .i64 blk] w fun e w' => e = .returned (.tuple #[]) ∧ ∃ vs' vn' vl', DiskAt w' base b vs' vn' vl' (D.spoilt dev blk) ∧ Fr [b] w w' ∧ (vs' = vs ∧ vn' = vn ∧ vl' = vl ∨ New w vs' ∧ New w vn' ∧ New w vl' ∧ Sep b vs' vn' vl') := by
  have hbl := hD.blk.lt
  obtain ⟨a, cap, rfl, hle, hmx, hcell⟩ := row4' hD.now
  obtain ⟨c0, c1, c2, c3, c4, c5⟩ := dsk_cells hD.blk
  have HD : Hid (DiskAt w base b vs (.slice a D.now.length cap) vl D) := hD
  have HS : Hid (Sep b vs (.slice a D.now.length cap) vl) := hsep
  clear hD hsep
  go_enter Try.func28, Try.ntmps28
  go_wp2_with fail
  go_loopw [6, 16] (fun f x wr => ∃ k : Nat, f = .bool (hasL (D.now.take k) dev blk) ∧ x = .int .i64 k ∧ k ≤ D.now.length ∧ Fr [] w wr) (fun _ x _ => D.now.length - (intOf x).toNat)
  case atStart => exact ⟨0, rfl, rfl, Nat.zero_le _, Fr.refl _ _⟩
  case round =>
    obtain ⟨k, rfl, rfl, hk, hw⟩ := hrel
    by_cases hlt : k < D.now.length
    · obtain ⟨c, hc⟩ : ∃ c, D.now[k]? = some c := ⟨D.now[k], List.getElem?_eq_getElem hlt⟩
      obtain ⟨g, rfl, hbg, hgl, d0, d1, d2, d3⟩ := hcell k c hc
      rw [← hw.below.cell (p := ⟨g, k * 4, none⟩) hgl] at d0
      rw [← hw.below.cell (p := ⟨g, k * 4 + 1, none⟩) hgl] at d1
      rw [← hw.below.cell (p := ⟨g, k * 4 + 2, none⟩) hgl] at d2
      rw [← hw.below.cell (p := ⟨g, k * 4 + 3, none⟩) hgl] at d3
      have hgw : g < wr.heap.size := Nat.lt_of_lt_of_le hgl hw.size
      have HH : Hid (hasL (D.now.take (k + 1)) dev blk = (hasL (D.now.take k) dev blk || c.is dev blk)) := hasL_take dev blk hc
      generalize hasL (D.now.take k) dev blk = q at *
      clear hc hcell c0 c1 c2 c3 c4 c5
      cases q
      · by_cases h1 : c.dev = dev
        · have e5 : (c.dev == dev) = true := by simpa using h1
          have HH2 : Hid (hasL (D.now.take (k + 1)) dev blk = (c.blk == blk)) := by show _ = _; rw [HH.out]; simp [Cel.is, e5]
          clear HH h1
          go_wp2_with fail
          exact ⟨⟨k + 1, by rw [HH2.out], by go_num, hlt, hw.alloc _⟩, by simp [intOf]; omega⟩
        · have e5 : (c.dev == dev) = false := by simpa using h1
          have HH2 : Hid (hasL (D.now.take (k + 1)) dev blk = false) := by show _ = _; rw [HH.out]; simp [Cel.is, e5]
          clear HH h1
          go_wp2_with fail
          exact ⟨⟨k + 1, by rw [HH2.out], by go_num, hlt, hw.alloc _⟩, by simp [intOf]; omega⟩
      · have HH2 : Hid (hasL (D.now.take (k + 1)) dev blk = true) := by show _ = _; rw [HH.out]; rfl
        clear HH
        go_wp2_with fail
        exact ⟨⟨k + 1, by rw [HH2.out], by go_num, hlt, hw.alloc _⟩, by simp [intOf]; omega⟩
    · obtain rfl : k = D.now.length := by omega
      have HT : Hid (D.now.take D.now.length = D.now) := List.take_length
      rw [HT.out]
      clear hcell c0 c1 c2 c3 c4 c5
      cases hh : hasL D.now dev blk with
      | false =>
        have HE : Hid (D.spoilt dev blk = D) := by show _ = _; unfold Dsk.spoilt; rw [hh]; rfl
        have hh2 : hasL D.now dev blk = false := hh
        clear hh
        go_wp2_with fail
        refine bodyPost_ret (results_none rfl _ _ _) rfl ?_
        refine ⟨rfl, vs, _, vl, ?_, hw.nil, .inl ⟨rfl, rfl, rfl⟩⟩
        rw [HE.out]
        exact ⟨hw.at HD.out.blk (by simp), hw.row HD.out.safe (by simp), hw.row HD.out.now (by simp), hw.row HD.out.loose (by simp)⟩
      | true =>
        have HE : Hid (D.spoilt dev blk = { D with safe := spoilL D.safe dev blk, now := spoilL D.now dev blk, loose := spoilL D.loose dev blk }) := by show _ = _; unfold Dsk.spoilt; rw [hh]; rfl
        have h1 := hw.at HD.out.blk (by simp)
        have r1 := hw.row HD.out.safe (by simp)
        have r2 := hw.row HD.out.now (by simp)
        have r3 := hw.row HD.out.loose (by simp)
        have hb1 := h1.lt
        have hsz := hw.size
        obtain ⟨c0, c1, c2, c3, c4, c5⟩ := dsk_cells h1
        have hf := h1.frozen
        clear hh
        go_wp2_with fail
        refine (spoil_any _ base _ D.now dev blk r2 hm).mono ?_
        rintro e w2 ⟨v2, rfl, hown2, hfr2⟩
        obtain ⟨a2, n2, cap2, hv2⟩ : ∃ a2 n2 cap2, v2 = .slice a2 n2 cap2 := by
          obtain ⟨x, y, e, _⟩ := row4' hown2
          exact ⟨x, _, y, e⟩
        subst hv2
        have h2 := hfr2.at h1 (by simp)
        have r12 := hfr2.row r1 (by simp)
        have r32 := hfr2.row r3 (by simp)
        have hsz2 := hfr2.size
        have f2 := hw.trans hfr2
        clear c0 c1 c2 c3 c4 c5 hf r1 r2 r3 h1 hfr2
        obtain ⟨c0, c1, c2, c3, c4, c5⟩ := dsk_cells h2
        have hf := h2.frozen
        have hne2 : (Value.slice a2 n2 cap2).ownBlock ≠ some b := fun h => by have := (hown2.lt _ h).1; omega
        go_wp2_with fail
        have h2s := h2.set 1 (.slice a2 n2 cap2)
        have r12s := rowSetOther r12 b 1 HS.out.s (.slice a2 n2 cap2)
        have r32s := rowSetOther r32 b 1 HS.out.l (.slice a2 n2 cap2)
        have r22s := rowSetOther hown2 b 1 hne2 (.slice a2 n2 cap2)
        have f2s : Fr [b] w (w2.setCell ⟨b, 1, none⟩ (.slice a2 n2 cap2)) := (f2.nil).setCell _ (.inl (by simp)) _
        have hsz2s : (w2.setCell ⟨b, 1, none⟩ (.slice a2 n2 cap2)).heap.size = w2.heap.size := by simp
        clear c0 c1 c2 c3 c4 c5 hf r12 r32 h2 f2 hown2
        generalize w2.setCell ⟨b, 1, none⟩ (.slice a2 n2 cap2) = W2 at *
        refine (spoil_any _ base _ D.safe dev blk r12s hm3).mono ?_
        rintro e w3 ⟨v3, rfl, hown3, hfr3⟩
        obtain ⟨a3, n3, cap3, hv3⟩ : ∃ a3 n3 cap3, v3 = .slice a3 n3 cap3 := by
          obtain ⟨x, y, e, _⟩ := row4' hown3
          exact ⟨x, _, y, e⟩
        subst hv3
        have h3 := hfr3.at h2s (by simp)
        have h3' : At w3 b (dskCells vs (.slice a2 n2 cap2) vl D.left D.steps D.stopped) 65 := h3
        have r33 := hfr3.row r32s (by simp)
        have r23 := hfr3.row r22s (by simp)
        have hsz3 := hfr3.size
        have f3 := f2s.trans hfr3.nil
        clear r12s r32s h2s hfr3 h3 r22s f2s
        obtain ⟨c0, c1, c2, c3, c4, c5⟩ := dsk_cells h3'
        have hf := h3'.frozen
        have hne3 : (Value.slice a3 n3 cap3).ownBlock ≠ some b := fun h => by have := (hown3.lt _ h).1; omega
        have h3s := h3'.set 0 (.slice a3 n3 cap3)
        have h3s' : At (w3.setCell ⟨b, 0, none⟩ (.slice a3 n3 cap3)) b (dskCells (.slice a3 n3 cap3) (.slice a2 n2 cap2) vl D.left D.steps D.stopped) 65 := h3s
        have r33s := rowSetOther r33 b 0 HS.out.l (.slice a3 n3 cap3)
        have r23s := rowSetOther r23 b 0 hne2 (.slice a3 n3 cap3)
        have r13s := rowSetOther hown3 b 0 hne3 (.slice a3 n3 cap3)
        have f3s : Fr [b] w (w3.setCell ⟨b, 0, none⟩ (.slice a3 n3 cap3)) := f3.setCell _ (.inl (by simp)) _
        have hsz3s : (w3.setCell ⟨b, 0, none⟩ (.slice a3 n3 cap3)).heap.size = w3.heap.size := by simp
        go_wp2_with (at_builtin; refine wpList_copyAny4 _ rfl (.const (.slice none 0 0)) (.tmp 59) 63 rfl 70 Try.underlying63 Try.infoCell rfl base D.loose vl rfl r33s hm2 ?_; intro a4 cap4 w4 hown4 hfr4)
        generalize w3.setCell ⟨b, 0, none⟩ (.slice a3 n3 cap3) = W3 at *
        clear c0 c1 c2 c3 c4 c5 hf h3' h3s r33 r23 hown3 f3 r33s
        go_loopw [63] (fun x wx => ∃ k : Nat, x = .int .i64 k ∧ k ≤ D.loose.length ∧ wx.ownsRow W3.heap.size 70 4 (.slice a4 D.loose.length cap4) (spoilTo D.loose dev blk k).length (cellsOf (spoilTo D.loose dev blk k)) ∧ Fr [] W3 wx) (fun x _ => D.loose.length - (intOf x).toNat)
        case atStart => exact ⟨0, rfl, Nat.zero_le _, by rw [spoilTo_zero]; exact hown4, hfr4⟩
        case round =>
          obtain ⟨k, rfl, hk2, hown, hwx⟩ := hrel
          have HL : Hid ((spoilTo D.loose dev blk k).length = D.loose.length) := spoilTo_length D.loose dev blk k
          by_cases hlt2 : k < D.loose.length
          · obtain ⟨c, hc⟩ : ∃ c, D.loose[k]? = some c := ⟨D.loose[k], List.getElem?_eq_getElem hlt2⟩
            have hg1 := spoilTo_get dev blk hc
            obtain ⟨a5, cap5, e2, _, _, hcell⟩ := row4' hown
            obtain ⟨g1, e3, hbg, hgl, d0, d1, d2, d3⟩ := hcell k c hg1
            have e4 : a4 = some ⟨g1, 0, none⟩ := by
              simp only [Value.slice.injEq] at e2
              rw [e2.1, e3]
            subst e4
            have hfz : wr.frozen? ⟨g1, k * 4 + 3, none⟩ = false := by
              rw [HL.out] at hown
              exact hown.frozenAt _
            have HS2 : Hid (spoilTo D.loose dev blk (k + 1) = (spoilTo D.loose dev blk k).set k (spo dev blk c)) := spoilTo_succ dev blk hc
            have HG : Hid ((spoilTo D.loose dev blk k)[k]? = some c) := hg1
            generalize spoilTo D.loose dev blk k = q at *
            clear hc hcell e2 e3 hg1 hfr4 hown4
            by_cases h1 : c.dev = dev ∧ c.blk = blk
            · obtain ⟨h1, h2⟩ := h1
              have e5 : (c.dev == dev) = true := by simpa using h1
              have e6 : (c.blk == blk) = true := by simpa using h2
              have HS3 : Hid (spoilTo D.loose dev blk (k + 1) = q.set k { c with sp := true }) := by show _ = _; rw [HS2.out]; simp [spo, Cel.is, e5, e6]
              clear h1 h2 HS2
              go_wp2_with fail
              refine ⟨⟨k + 1, by go_num, hlt2, ?_, hwx.setCell _ (.inr hbg) _⟩, by simp [intOf]; omega⟩
              rw [HS3.out, List.length_set, ← cellsOf_set HG.out]
              rw [HL.out] at hown ⊢
              exact (hown.stored (k * 4 + 3) (.bool true)).1
            · have HS3 : Hid (spoilTo D.loose dev blk (k + 1) = q) := by
                show _ = _
                rw [HS2.out]
                have : c.is dev blk = false := by
                  simp only [Cel.is, Bool.and_eq_false_iff, beq_eq_false_iff_ne]
                  by_cases h2 : c.dev = dev
                  · exact .inr (fun h3 => h1 ⟨h2, h3⟩)
                  · exact .inl h2
                simp only [spo, this]
                exact set_same HG.out
              clear HS2
              by_cases h2 : c.dev = dev
              · have e5 : (c.dev == dev) = true := by simpa using h2
                have e6 : (c.blk == blk) = false := by simpa using fun h3 => h1 ⟨h2, h3⟩
                clear h1 h2
                go_wp2_with fail
                exact ⟨⟨k + 1, by go_num, hlt2, by rw [HS3.out]; exact hown, hwx⟩, by simp [intOf]; omega⟩
              · have e5 : (c.dev == dev) = false := by simpa using h2
                clear h1 h2
                go_wp2_with fail
                exact ⟨⟨k + 1, by go_num, hlt2, by rw [HS3.out]; exact hown, hwx⟩, by simp [intOf]; omega⟩
          · obtain rfl : k = D.loose.length := by omega
            have HA : Hid (spoilTo D.loose dev blk D.loose.length = spoilL D.loose dev blk) := spoilTo_all D.loose dev blk
            have h5 := hwx.at h3s' (by simp)
            have r15 := hwx.row r13s (by simp)
            have r25 := hwx.row r23s (by simp)
            have f5 := f3s.trans hwx.nil
            rw [HA.out] at hown
            have hne5 : (Value.slice a4 D.loose.length cap4).ownBlock ≠ some b := fun h => by have := (hown.lt _ h).1; have := h3s'.lt; omega
            have hsep5 : Sep b (.slice a3 n3 cap3) (.slice a2 n2 cap2) (.slice a4 D.loose.length cap4) := ⟨hne3, hne2, hne5, fun j hj hj2 => by have := (hown.lt _ hj).1; have := (r13s.lt _ hj2).2; omega, fun j hj hj2 => by have := (hown.lt _ hj).1; have := (r23s.lt _ hj2).2; omega⟩
            have hn1 : New w (.slice a3 n3 cap3) := fun j hj => by have := (r13s.lt _ hj).1; omega
            have hn2 : New w (.slice a2 n2 cap2) := fun j hj => by have := (r23s.lt _ hj).1; omega
            have hn3 : New w (.slice a4 D.loose.length cap4) := fun j hj => by have := (hown.lt _ hj).1; omega
            clear r13s r23s hfr4 hown4
            obtain ⟨c0, c1, c2, c3, c4, c5⟩ := dsk_cells h5
            have hf := h5.frozen
            go_wp2_with fail
            go_end0
            refine ⟨rfl, _, _, _, ?_, f5.setCell _ (.inl (by simp)) _, .inr ⟨hn1, hn2, hn3, hsep5⟩⟩
            rw [HE.out]
            exact ⟨h5.set 2 _, rowSetOther (rowBase r15 (by omega)) b 2 hne3 _, rowSetOther (rowBase r25 (by omega)) b 2 hne2 _, rowSetOther (rowBase hown (by omega)) b 2 hne5 _⟩

end Go.Proofs.Ytjgnheelcbkahaa.dk
