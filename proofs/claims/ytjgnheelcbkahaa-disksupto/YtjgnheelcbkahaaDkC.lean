/-
  Read and Bytes of disk.Disk; block, Read of the document's disk.
-/
import Derived.Test.YtjgnheelcbkahaaDkB
namespace Go.Proofs.Ytjgnheelcbkahaa.dk
open Go.RowKit

def Cel.is (c : Cel) (dev blk : Int) : Bool := c.dev == dev && c.blk == blk

/-- what Read finds -/
def readL (l : List Cel) (dev blk : Int) : ByteArray × Bool :=
  match l.find? (fun c => c.is dev blk) with
  | none => (ByteArray.empty, true)
  | some c => if c.sp then (ByteArray.empty, false) else (c.data, true)

theorem find_take {l : List Cel} {p : Cel → Bool} {k : Nat} {c : Cel} (h : (l.take k).find? p = none) (hc : l[k]? = some c) (hp : p c = true) : l.find? p = some c := by
  have hk : k < l.length := (List.getElem?_eq_some_iff.1 hc).1
  have e : l = l.take k ++ c :: l.drop (k + 1) := by
    have := (List.getElem?_eq_some_iff.1 hc).2
    conv => lhs; rw [← List.take_append_drop k l, List.drop_eq_getElem_cons hk, this]
  rw [e, List.find?_append, h, List.find?_cons]
  simp [hp]

theorem find_take_no {l : List Cel} {p : Cel → Bool} {k : Nat} {c : Cel} (h : (l.take k).find? p = none) (hc : l[k]? = some c) (hp : p c = false) : (l.take (k + 1)).find? p = none := by
  rw [List.take_add_one, hc, List.find?_append, h]
  simp [hp]

theorem is_true {c : Cel} {dev blk : Int} (h : c.dev = dev) (h2 : c.blk = blk) : c.is dev blk = true := by simp [Cel.is, h, h2]

set_option maxHeartbeats 1000000 in
theorem dsk_read (w : World) (base b : Nat) (vs vn vl : Value) (D : Dsk) (dev blk : Int) (hD : DiskAt w base b vs vn vl D) (hm : D.now.length < 4611686018427387904) :
    Calls Try.prog 26 #[.pointer (some ⟨b, 0, none⟩), .int .i64 dev, .int .i64 blk] w fun e w' => e = .returned (.tuple #[.string (readL D.now dev blk).1, .bool (readL D.now dev blk).2]) ∧ Fr [] w w' := by
  have hbl := hD.blk.lt
  obtain ⟨c0, c1, c2, c3, c4, c5⟩ := dsk_cells hD.blk
  have hf := hD.blk.frozen
  rcases row4 hD.now with ⟨rfl, hnil⟩ | ⟨g, cap, rfl, hle, hmx, hbg, hgl, hcell, hfr⟩
  · have HE : Hid (readL D.now dev blk = (ByteArray.empty, true)) := by show _ = _; rw [hnil]; rfl
    clear hD hm hnil
    go_enter Try.func26, Try.ntmps26
    go_wp2_with fail
    go_loopw [15] (fun k wr => k = .int .i64 0 ∧ Fr [] w wr) (fun _ _ => 0)
    case atStart => exact ⟨rfl, Fr.refl _ _⟩
    case round =>
      obtain ⟨rfl, hw⟩ := hrel
      go_wp2_with fail
      go_ret2
      rw [HE.out]
      exact ⟨rfl, hw⟩
  · generalize D.now = l at *
    clear hD
    go_enter Try.func26, Try.ntmps26
    go_wp2_with fail
    go_loopw [15] (fun x wr => ∃ k : Nat, x = .int .i64 k ∧ k ≤ l.length ∧ (l.take k).find? (fun c => c.is dev blk) = none ∧ Fr [] w wr) (fun x _ => l.length - (intOf x).toNat)
    case atStart => exact ⟨0, rfl, Nat.zero_le _, by simp, Fr.refl _ _⟩
    case round =>
      obtain ⟨k, rfl, hk, hno, hw⟩ := hrel
      have HNO : Hid ((l.take k).find? (fun c => c.is dev blk) = none) := hno
      clear hno
      by_cases hlt : k < l.length
      · obtain ⟨c, hc⟩ : ∃ c, l[k]? = some c := ⟨l[k], List.getElem?_eq_getElem hlt⟩
        obtain ⟨d0, d1, d2, d3⟩ := hcell k c hc
        have HC : Hid (l[k]? = some c) := hc
        rw [← hw.below.cell (p := ⟨g, k * 4, none⟩) hgl] at d0
        rw [← hw.below.cell (p := ⟨g, k * 4 + 1, none⟩) hgl] at d1
        rw [← hw.below.cell (p := ⟨g, k * 4 + 2, none⟩) hgl] at d2
        rw [← hw.below.cell (p := ⟨g, k * 4 + 3, none⟩) hgl] at d3
        have hgw : g < wr.heap.size := Nat.lt_of_lt_of_le hgl hw.size
        clear hc hcell
        obtain ⟨cd, cb, cx, cs⟩ := c
        by_cases h1 : cd = dev
        · by_cases h2 : cb = blk
          · subst h1 h2
            have HF : Hid (l.find? (fun c => c.is cd cb) = some ⟨cd, cb, cx, cs⟩) := find_take HNO.out HC.out (by simp [Cel.is])
            cases cs
            · have HR : Hid (readL l cd cb = (cx, true)) := by show readL l cd cb = _; unfold readL; rw [HF.out]; rfl
              go_wp2_with fail
              go_ret2
              rw [HR.out]
              exact ⟨rfl, hw.alloc _⟩
            · have HR : Hid (readL l cd cb = (ByteArray.empty, false)) := by show readL l cd cb = _; unfold readL; rw [HF.out]; rfl
              go_wp2_with fail
              go_ret2
              rw [HR.out]
              exact ⟨rfl, hw.alloc _⟩
          · subst h1
            have e2 : (cb == blk) = false := by simpa using h2
            have HF : Hid ((l.take (k + 1)).find? (fun c => c.is cd blk) = none) := find_take_no HNO.out HC.out (by simp [Cel.is, h2])
            clear h2
            go_wp2_with fail
            exact ⟨⟨k + 1, by go_num, hlt, HF.out, hw.alloc _⟩, by simp [intOf]; omega⟩
        · have e1 : (cd == dev) = false := by simpa using h1
          have HF : Hid ((l.take (k + 1)).find? (fun c => c.is dev blk) = none) := find_take_no HNO.out HC.out (by simp [Cel.is, h1])
          clear h1
          go_wp2_with fail
          exact ⟨⟨k + 1, by go_num, hlt, HF.out, hw.alloc _⟩, by simp [intOf]; omega⟩
      · obtain rfl : k = l.length := by omega
        have HR : Hid (readL l dev blk = (ByteArray.empty, true)) := by
          have := HNO.out
          rw [List.take_length] at this
          show readL l dev blk = _
          unfold readL
          rw [this]
        go_wp2_with fail
        go_ret2
        rw [HR.out]
        exact ⟨rfl, hw⟩

/-- how many bytes -/
def bytesL (l : List Cel) : Nat := (l.map fun c => c.data.size).sum

theorem bytesL_take {l : List Cel} {k : Nat} {c : Cel} (hc : l[k]? = some c) : bytesL (l.take (k + 1)) = bytesL (l.take k) + c.data.size := by
  simp [bytesL, List.take_add_one, hc]
theorem bytesL_le (l : List Cel) (k : Nat) : bytesL (l.take k) ≤ bytesL l := by
  have e : bytesL l = bytesL (l.take k) + bytesL (l.drop k) := by
    conv => lhs; rw [← List.take_append_drop k l]
    unfold bytesL
    rw [List.map_append, List.sum_append_nat]
  omega

set_option maxHeartbeats 1000000 in
theorem dsk_bytes (w : World) (base b : Nat) (vs vn vl : Value) (D : Dsk) (hD : DiskAt w base b vs vn vl D) (hm : D.now.length < 4611686018427387904) (hb : bytesL D.now < 4611686018427387904) :
    Calls Try.prog 30 #[.pointer (some ⟨b, 0, none⟩)] w fun e w' => e = .returned (.int .i64 (bytesL D.now)) ∧ Fr [] w w' := by
  have hbl := hD.blk.lt
  obtain ⟨c0, c1, c2, c3, c4, c5⟩ := dsk_cells hD.blk
  have hf := hD.blk.frozen
  rcases row4 hD.now with ⟨rfl, hnil⟩ | ⟨g, cap, rfl, hle, hmx, hbg, hgl, hcell, hfr⟩
  · have HE : Hid (bytesL D.now = 0) := by show _ = _; rw [hnil]; rfl
    clear hD hm hb hnil
    go_enter Try.func30, Try.ntmps30
    go_wp2_with fail
    go_loopw [3, 11] (fun n k wr => n = .int .i64 0 ∧ k = .int .i64 0 ∧ Fr [] w wr) (fun _ _ _ => 0)
    case atStart => exact ⟨rfl, rfl, Fr.refl _ _⟩
    case round =>
      obtain ⟨rfl, rfl, hw⟩ := hrel
      go_wp2_with fail
      go_ret
      rw [HE.out]
      exact ⟨rfl, hw⟩
  · generalize D.now = l at *
    clear hD
    go_enter Try.func30, Try.ntmps30
    go_wp2_with fail
    go_loopw [3, 11] (fun n x wr => ∃ k : Nat, n = .int .i64 (bytesL (l.take k)) ∧ x = .int .i64 k ∧ k ≤ l.length ∧ Fr [] w wr) (fun _ x _ => l.length - (intOf x).toNat)
    case atStart => exact ⟨0, rfl, rfl, Nat.zero_le _, Fr.refl _ _⟩
    case round =>
      obtain ⟨k, rfl, rfl, hk, hw⟩ := hrel
      by_cases hlt : k < l.length
      · obtain ⟨c, hc⟩ : ∃ c, l[k]? = some c := ⟨l[k], List.getElem?_eq_getElem hlt⟩
        obtain ⟨d0, d1, d2, d3⟩ := hcell k c hc
        have hb2 := bytesL_take hc
        have hb3 := bytesL_le l (k + 1)
        rw [← hw.below.cell (p := ⟨g, k * 4, none⟩) hgl] at d0
        rw [← hw.below.cell (p := ⟨g, k * 4 + 1, none⟩) hgl] at d1
        rw [← hw.below.cell (p := ⟨g, k * 4 + 2, none⟩) hgl] at d2
        rw [← hw.below.cell (p := ⟨g, k * 4 + 3, none⟩) hgl] at d3
        have hgw : g < wr.heap.size := Nat.lt_of_lt_of_le hgl hw.size
        have HB : Hid (bytesL (l.take (k + 1)) = bytesL (l.take k) + c.data.size) := hb2
        have hb4 : bytesL (l.take k) + c.data.size < 4611686018427387904 := by omega
        generalize bytesL (l.take k) = q at *
        clear hc hcell hb2 hb3
        go_wp2_with fail
        exact ⟨⟨k + 1, by rw [HB.out]; go_num, by go_num, hlt, hw.alloc _⟩, by simp [intOf]; omega⟩
      · obtain rfl : k = l.length := by omega
        have HR : Hid (l.take l.length = l) := List.take_length
        go_wp2_with fail
        go_ret
        rw [HR.out]
        exact ⟨rfl, hw⟩

/-- are there no bytes? -/
def noBytes (s : ByteArray) : Bool := s.toList.isEmpty

/-- the document's block: what one deed makes of a block -/
def deedStep (dev blk : Int) (x : ByteArray × Bool) (c : Cel) : ByteArray × Bool :=
  if c.is dev blk then (if c.sp then (x.1, noBytes x.1) else (c.data, true)) else x
def blockL (l : List Cel) (dev blk : Int) : ByteArray × Bool := l.foldl (deedStep dev blk) (ByteArray.empty, true)

theorem blockL_take {l : List Cel} {k : Nat} {c : Cel} (dev blk : Int) (hc : l[k]? = some c) : blockL (l.take (k + 1)) dev blk = deedStep dev blk (blockL (l.take k) dev blk) c := by
  simp [blockL, List.take_add_one, hc]

set_option maxHeartbeats 1000000 in
theorem ref_block (w : World) (base b : Nat) (vd : Value) (safe left : Int) (st : Bool) (steps : Int) (l : List Cel) (dev blk : Int) (hA : At w b (refCells vd safe left st steps) 68) (hR : w.ownsRow base 73 4 vd l.length (cellsOf l)) (hm : l.length < 4611686018427387904) :
    Calls Try.prog 49 #[.pointer (some ⟨b, 0, none⟩), .int .i64 dev, .int .i64 blk] w fun e w' => e = .returned (.tuple #[.string (blockL l dev blk).1, .bool (blockL l dev blk).2]) ∧ Fr [] w w' := by
  have hbl := hA.lt
  obtain ⟨c0, c1, c2, c3, c4⟩ := ref_cells hA
  have hf := hA.frozen
  rcases row4 hR with ⟨rfl, rfl⟩ | ⟨g, cap, rfl, hle, hmx, hbg, hgl, hcell, hfr⟩
  · clear hR hm
    go_enter Try.func49, Try.ntmps49
    go_wp2_with fail
    go_loopw [8, 9, 10] (fun n m k wr => n = .string ByteArray.empty ∧ m = .bool true ∧ k = .int .i64 0 ∧ Fr [] w wr) (fun _ _ _ _ => 0)
    case atStart => exact ⟨rfl, rfl, rfl, Fr.refl _ _⟩
    case round =>
      obtain ⟨rfl, rfl, rfl, hw⟩ := hrel
      rw [← hw.below.cell (p := ⟨b, 0, none⟩) hbl] at c0
      go_wp2_with fail
      go_ret2
      exact ⟨rfl, hw⟩
  · clear hR
    go_enter Try.func49, Try.ntmps49
    go_wp2_with fail
    go_loopw [8, 9, 10] (fun n m x wr => ∃ k : Nat, n = .string (blockL (l.take k) dev blk).1 ∧ m = .bool (blockL (l.take k) dev blk).2 ∧ x = .int .i64 k ∧ k ≤ l.length ∧ Fr [] w wr) (fun _ _ x _ => l.length - (intOf x).toNat)
    case atStart => exact ⟨0, rfl, rfl, rfl, Nat.zero_le _, Fr.refl _ _⟩
    case round =>
      obtain ⟨k, rfl, rfl, rfl, hk, hw⟩ := hrel
      rw [← hw.below.cell (p := ⟨b, 0, none⟩) hbl] at c0
      by_cases hlt : k < l.length
      · obtain ⟨c, hc⟩ : ∃ c, l[k]? = some c := ⟨l[k], List.getElem?_eq_getElem hlt⟩
        obtain ⟨d0, d1, d2, d3⟩ := hcell k c hc
        rw [← hw.below.cell (p := ⟨g, k * 4, none⟩) hgl] at d0
        rw [← hw.below.cell (p := ⟨g, k * 4 + 1, none⟩) hgl] at d1
        rw [← hw.below.cell (p := ⟨g, k * 4 + 2, none⟩) hgl] at d2
        rw [← hw.below.cell (p := ⟨g, k * 4 + 3, none⟩) hgl] at d3
        have hgw : g < wr.heap.size := Nat.lt_of_lt_of_le hgl hw.size
        have HB : Hid (blockL (l.take (k + 1)) dev blk = deedStep dev blk (blockL (l.take k) dev blk) c) := blockL_take dev blk hc
        generalize blockL (l.take k) dev blk = q at *
        obtain ⟨q1, q2⟩ := q
        clear hc hcell
        obtain ⟨cd, cb, cx, cs⟩ := c
        by_cases h1 : cd = dev
        · by_cases h2 : cb = blk
          · subst h1 h2
            cases cs
            · have HB2 : Hid (blockL (l.take (k + 1)) cd cb = (cx, true)) := by show _ = _; rw [HB.out]; simp [deedStep, Cel.is]
              clear HB
              go_wp2_with fail
              exact ⟨⟨k + 1, by rw [HB2.out], by rw [HB2.out], by go_num, hlt, hw.alloc _⟩, by simp [intOf]; omega⟩
            · have HB2 : Hid (blockL (l.take (k + 1)) cd cb = (q1, noBytes q1)) := by show _ = _; rw [HB.out]; simp [deedStep, Cel.is]
              clear HB
              go_wp2_with fail
              exact ⟨⟨k + 1, by rw [HB2.out], by rw [HB2.out]; rfl, by go_num, hlt, hw.alloc _⟩, by simp [intOf]; omega⟩
          · subst h1
            have HB2 : Hid (blockL (l.take (k + 1)) cd blk = (q1, q2)) := by show _ = _; rw [HB.out]; simp [deedStep, Cel.is, h2]
            have e2 : (cb != blk) = true := by simpa using h2
            clear h2 HB
            go_wp2_with fail
            exact ⟨⟨k + 1, by rw [HB2.out], by rw [HB2.out], by go_num, hlt, hw.alloc _⟩, by simp [intOf]; omega⟩
        · have HB2 : Hid (blockL (l.take (k + 1)) dev blk = (q1, q2)) := by show _ = _; rw [HB.out]; simp [deedStep, Cel.is, h1]
          have e1 : (cd != dev) = true := by simpa using h1
          clear h1 HB
          go_wp2_with fail
          exact ⟨⟨k + 1, by rw [HB2.out], by rw [HB2.out], by go_num, hlt, hw.alloc _⟩, by simp [intOf]; omega⟩
      · obtain rfl : k = l.length := by omega
        have HR : Hid (l.take l.length = l) := List.take_length
        go_wp2_with fail
        go_ret2
        rw [HR.out]
        exact ⟨rfl, hw⟩

/-- the document's Read -/
def refReadL (l : List Cel) (dev blk : Int) : ByteArray × Bool := if (blockL l dev blk).2 then ((blockL l dev blk).1, true) else (ByteArray.empty, false)

theorem ref_read (w : World) (base b : Nat) (vd : Value) (safe left : Int) (st : Bool) (steps : Int) (l : List Cel) (dev blk : Int) (hA : At w b (refCells vd safe left st steps) 68) (hR : w.ownsRow base 73 4 vd l.length (cellsOf l)) (hm : l.length < 4611686018427387904) :
    Calls Try.prog 27 #[.pointer (some ⟨b, 0, none⟩), .int .i64 dev, .int .i64 blk] w fun e w' => e = .returned (.tuple #[.string (refReadL l dev blk).1, .bool (refReadL l dev blk).2]) ∧ Fr [] w w' := by
  have hc := ref_block w base b vd safe left st steps l dev blk hA hR hm
  unfold refReadL
  generalize blockL l dev blk = q at *
  obtain ⟨q1, q2⟩ := q
  clear hA hR hm
  cases q2
  · go_enter Try.func27, Try.ntmps27
    go_wp2_with fail
    refine hc.mono ?_
    rintro e w' ⟨rfl, hw⟩
    go_wp2_with fail
    go_ret2
    exact ⟨rfl, hw⟩
  · go_enter Try.func27, Try.ntmps27
    go_wp2_with fail
    refine hc.mono ?_
    rintro e w' ⟨rfl, hw⟩
    go_wp2_with fail
    go_ret2
    exact ⟨rfl, hw⟩

end Go.Proofs.Ytjgnheelcbkahaa.dk
