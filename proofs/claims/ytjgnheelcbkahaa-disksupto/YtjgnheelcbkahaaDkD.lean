/-
  put of package disk.
-/
import Derived.Test.YtjgnheelcbkahaaDkC
namespace Go.Proofs.Ytjgnheelcbkahaa.dk
open Go.RowKit

theorem Try.infoCell : (Try.prog.info? 70).map (fun i => (i.zero, i.size, i.bytes)) = some (some (.agg #[.int .i64 0, .int .i64 0, .string ByteArray.empty, .bool false]), 4, 40) := by kernel_rfl
theorem Try.infoDeed : (Try.prog.info? 73).map (fun i => (i.zero, i.size, i.bytes)) = some (some (.agg #[.int .i64 0, .int .i64 0, .string ByteArray.empty, .bool false]), 4, 40) := by kernel_rfl

/-- those of other blocks -/
def others (l : List Cel) (dev blk : Int) : List Cel := l.filter fun x => !x.is dev blk
/-- what put makes -/
def putL (l : List Cel) (c : Cel) : List Cel := others l c.dev c.blk ++ if noBytes c.data then [] else [c]

theorem others_take {l : List Cel} {k : Nat} {c : Cel} (dev blk : Int) (hc : l[k]? = some c) : others (l.take (k + 1)) dev blk = others (l.take k) dev blk ++ if c.is dev blk then [] else [c] := by
  simp only [others, List.take_add_one, hc, List.filter_append]
  cases h : c.is dev blk <;> simp [h]

theorem others_le (l : List Cel) (dev blk : Int) (k : Nat) : (others (l.take k) dev blk).length ≤ k :=
  Nat.le_trans (List.length_filter_le _ _) (List.length_take_le _ _)

set_option maxHeartbeats 2000000 in
theorem put_any (w : World) (base : Nat) (v : Value) (l : List Cel) (c : Cel) (hr : w.ownsRow base 70 4 v l.length (cellsOf l)) (hm : l.length < 1073741824) :
    Calls Try.prog 24 #[v, .agg #[.int .i64 c.dev, .int .i64 c.blk, .string c.data, .bool c.sp]] w fun e w' => ∃ v', e = .returned v' ∧ w'.ownsRow w.heap.size 70 4 v' (putL l c).length (cellsOf (putL l c)) ∧ Fr [] w w' := by
  obtain ⟨a, cap, rfl, hle, hmx, hcell⟩ := row4' hr
  obtain ⟨i0, hi, hz0, hz1, hz2⟩ := info_parts Try.infoCell
  obtain ⟨cd, cb, cx, cs⟩ := c
  clear hr
  go_enter Try.func24, Try.ntmps24
  go_wp2_with (at_make; refine wpList_make_own _ rfl _ _ 63 rfl (w.heap.size + 1) 70 i0 (.agg #[.int .i64 0, .int .i64 0, .string ByteArray.empty, .bool false]) 4 Try.underlying63 hi hz0 hz1 .i64 .i64 _ (l.length + 1) rfl rfl (by go_num) (by rw [hz2]; omega) (by unfold maxLen; omega) (by simp) ?_; intro w0 hown0 hgrow0)
  have hfr0 : Fr [] w w0 := ((Fr.refl [] w).alloc _).grown hgrow0 (fun k h => by cases h)
  have hat0 : At w0 w.heap.size #[.int .i64 cd, .int .i64 cb, .string cx, .bool cs] 70 := by
    show w0.heap[w.heap.size]? = _
    rw [hgrow0.block w.heap.size (by simp) (by simp)]
    exact heap_alloc_new w _
  go_loopw [5, 14] (fun out x wr => ∃ k : Nat, x = .int .i64 k ∧ k ≤ l.length ∧ wr.ownsRow (w.heap.size + 1) 70 4 out (others (l.take k) cd cb).length (cellsOf (others (l.take k) cd cb)) ∧ At wr w.heap.size #[.int .i64 cd, .int .i64 cb, .string cx, .bool cs] 70 ∧ Fr [] w wr) (fun _ x _ => l.length - (intOf x).toNat)
  case atStart => exact ⟨0, rfl, Nat.zero_le _, by simpa [others, cellsOf] using hown0, hat0, hfr0⟩
  case round =>
    obtain ⟨k, rfl, hk, hown, hat, hw⟩ := hrel
    have hsz : w.heap.size < wr.heap.size := hat.lt
    have e0 := hat.cell 0
    have e1 := hat.cell 1
    have e2 := hat.cell 2
    have e3 := hat.cell 3
    simp at e0 e1 e2 e3
    have hfz := hat.frozen
    have hlen := others_le l cd cb k
    clear hown0 hgrow0 hfr0 hat0
    by_cases hlt : k < l.length
    · obtain ⟨c, hc⟩ : ∃ c, l[k]? = some c := ⟨l[k], List.getElem?_eq_getElem hlt⟩
      obtain ⟨g, rfl, hbg, hgl, d0, d1, d2, d3⟩ := hcell k c hc
      rw [← hw.below.cell (p := ⟨g, k * 4, none⟩) hgl] at d0
      rw [← hw.below.cell (p := ⟨g, k * 4 + 1, none⟩) hgl] at d1
      rw [← hw.below.cell (p := ⟨g, k * 4 + 2, none⟩) hgl] at d2
      rw [← hw.below.cell (p := ⟨g, k * 4 + 3, none⟩) hgl] at d3
      have hgw : g < wr.heap.size := Nat.lt_of_lt_of_le hgl hw.size
      have HO : Hid (others (l.take (k + 1)) cd cb = others (l.take k) cd cb ++ if c.is cd cb then [] else [c]) := others_take cd cb hc
      generalize others (l.take k) cd cb = q at *
      clear hc hcell
      obtain ⟨xd, xb, xx, xs⟩ := c
      by_cases h1 : xd = cd ∧ xb = cb
      · obtain ⟨rfl, rfl⟩ := h1
        have HO2 : Hid (others (l.take (k + 1)) xd xb = q) := by show _ = _; rw [HO.out]; simp [Cel.is]
        clear HO
        go_wp2_with fail
        exact ⟨⟨k + 1, by go_num, hlt, by rw [HO2.out]; exact hown.alloc _, by exact (Fr.refl [] wr |>.alloc _).at hat (by simp), hw.alloc _⟩, by simp [intOf]; omega⟩
      · have HO2 : Hid (others (l.take (k + 1)) cd cb = q ++ [⟨xd, xb, xx, xs⟩]) := by
          show _ = _
          rw [HO.out]
          have : Cel.is ⟨xd, xb, xx, xs⟩ cd cb = false := by
            simp only [Cel.is, Bool.and_eq_false_iff, beq_eq_false_iff_ne]
            by_cases h2 : xd = cd
            · exact .inr (fun h3 => h1 ⟨h2, h3⟩)
            · exact .inl h2
          rw [this]; rfl
        clear HO
        by_cases h2 : xd = cd
        · have h3 : (xb != cb) = true := by simpa using fun h3 => h1 ⟨h2, h3⟩
          subst h2
          clear h1
          go_wp2_with (at_builtin; refine wpList_app4 _ rfl (.tmp 30) (.tmp 32) 63 rfl (w.heap.size + 1) 70 Try.underlying63 Try.infoCell u5 q rfl ((hown.alloc _).alloc _) (wr.heap.size + 1) ⟨xd, xb, xx, xs⟩ 70 rfl (at_alloc2 _ _ _ _) (by omega) (by simp; omega) ?_; intro g2 cap2 w2 hown2 hgrow2 hat2)
          exact ⟨⟨k + 1, by go_num, hlt, by rw [HO2.out]; exact hown2, ((hat.alloc _).alloc _).grown hgrow2 (fun h => by have := (hown.lt _ h).1; omega), ((hw.alloc _).alloc _).grown hgrow2 (fun j h => .inr (by have := (hown.lt _ h).1; omega))⟩, by simp [intOf]; omega⟩
        · have h3 : (xd != cd) = true := by simpa using h2
          clear h1 h2
          go_wp2_with (at_builtin; refine wpList_app4 _ rfl (.tmp 30) (.tmp 32) 63 rfl (w.heap.size + 1) 70 Try.underlying63 Try.infoCell u5 q rfl ((hown.alloc _).alloc _) (wr.heap.size + 1) ⟨xd, xb, xx, xs⟩ 70 rfl (at_alloc2 _ _ _ _) (by omega) (by simp; omega) ?_; intro g2 cap2 w2 hown2 hgrow2 hat2)
          exact ⟨⟨k + 1, by go_num, hlt, by rw [HO2.out]; exact hown2, ((hat.alloc _).alloc _).grown hgrow2 (fun h => by have := (hown.lt _ h).1; omega), ((hw.alloc _).alloc _).grown hgrow2 (fun j h => .inr (by have := (hown.lt _ h).1; omega))⟩, by simp [intOf]; omega⟩
    · obtain rfl : k = l.length := by omega
      have HT : Hid (l.take l.length = l) := List.take_length
      rw [HT.out] at hown hlen
      have HP : Hid (putL l ⟨cd, cb, cx, cs⟩ = others l cd cb ++ if noBytes cx then [] else [⟨cd, cb, cx, cs⟩]) := rfl
      generalize others l cd cb = q at *
      have hsh : ∃ aa cc, u5 = .slice aa q.length cc := by
        obtain ⟨aa, cc, e, _⟩ := row4' hown
        exact ⟨aa, cc, e⟩
      clear hcell hi hz0 hz1 hz2
      cases hb : noBytes cx with
      | true =>
        have hb2 : cx.toList.isEmpty = true := hb
        have HP2 : Hid (putL l ⟨cd, cb, cx, cs⟩ = q) := by show _ = _; rw [HP.out, hb]; simp
        clear hb HP
        go_wp2_with fail
        go_ret
        refine ⟨_, rfl, ?_, hw⟩
        rw [HP2.out]
        exact rowBase hown (by omega)
      | false =>
        have hb2 : cx.toList.isEmpty = false := hb
        have HP2 : Hid (putL l ⟨cd, cb, cx, cs⟩ = q ++ [⟨cd, cb, cx, cs⟩]) := by show _ = _; rw [HP.out, hb]; simp
        clear hb HP
        go_wp2_with (at_builtin; refine wpList_app4 _ rfl (.tmp 38) (.tmp 40) 63 rfl (w.heap.size + 1) 70 Try.underlying63 Try.infoCell u5 q rfl (hown.alloc _) wr.heap.size ⟨cd, cb, cx, cs⟩ 70 rfl (at_alloc _ _ _) (by omega) (by simp; omega) ?_; intro g2 cap2 w2 hown2 hgrow2 hat2)
        go_ret
        refine ⟨_, rfl, ?_, (hw.alloc _).grown hgrow2 (fun j h => .inr (by have := (hown.lt _ h).1; omega))⟩
        rw [HP2.out]
        exact rowBase hown2 (by omega)

end Go.Proofs.Ytjgnheelcbkahaa.dk
