/-
  The shelf: Stats, MayPut.
-/
import Derived.Test.YtmeplfpnpogalaaKp5
namespace Go.Proofs.Ytmeplfpnpogalaa.kp
open Go.RowKit dk

def liveN (l : List Ent) : Nat := l.countP fun e => !e.dead
def deadN (l : List Ent) : Nat := l.countP fun e => e.dead
def usedN (l : List Ent) : Nat := (l.map fun e => 24 + e.blob.size).sum
def statsV (l : List Ent) : Array Value := #[.int .i64 (liveN l), .int .i64 (deadN l), .int .i64 (usedN l)]
theorem liveN_take {l : List Ent} {k : Nat} {c : Ent} (hc : l[k]? = some c) : liveN (l.take (k + 1)) = liveN (l.take k) + if c.dead then 0 else 1 := by
  cases hd : c.dead <;> simp [liveN, List.take_add_one, hc, hd]
theorem deadN_take {l : List Ent} {k : Nat} {c : Ent} (hc : l[k]? = some c) : deadN (l.take (k + 1)) = deadN (l.take k) + if c.dead then 1 else 0 := by
  cases hd : c.dead <;> simp [deadN, List.take_add_one, hc, hd]
theorem usedN_take {l : List Ent} {k : Nat} {c : Ent} (hc : l[k]? = some c) : usedN (l.take (k + 1)) = usedN (l.take k) + (24 + c.blob.size) := by
  simp [usedN, List.take_add_one, hc]
theorem usedN_le (l : List Ent) (k : Nat) : usedN (l.take k) ≤ usedN l := by
  have e : usedN l = usedN (l.take k) + usedN (l.drop k) := by
    conv => lhs; rw [← List.take_append_drop k l]
    unfold usedN
    rw [List.map_append, List.sum_append_nat]
  omega
theorem liveN_le (l : List Ent) : liveN l ≤ l.length := List.countP_le_length
theorem deadN_le (l : List Ent) : deadN l ≤ l.length := List.countP_le_length

set_option maxHeartbeats 4000000 in
theorem shStats (w : World) (base b off : Nat) (v : Value) (l : List Ent) (hc : w.cell? ⟨b, off, none⟩ = some v) (hr : w.ownsRow base 145 3 v l.length (entsV l)) (hl : l.length < 1073741824) (hu : usedN l < 1073741824) :
    Calls Try.prog 47 #[.pointer (some ⟨b, off, none⟩)] w fun e w' => e = .returned (.agg (statsV l)) ∧ Fr [] w w' := by
  have hblt : b < w.heap.size := block_lt_of_cell hc
  obtain ⟨a, cap, rfl, hle, hmx, hcell⟩ := row3 hr
  clear hr
  go_enter Try.func47, Try.ntmps47
  go_wp2_with fail
  go_loopw [11] (fun x wr => ∃ k : Nat, x = .int .i64 k ∧ k ≤ l.length ∧ At wr w.heap.size #[.int .i64 0, .int .i64 0, .int .i64 0] 65 ∧ At wr (w.heap.size + 1) (statsV (l.take k)) 65 ∧ Fr [] w wr) (fun x _ => l.length - (intOf x).toNat)
  case atStart => exact ⟨0, rfl, Nat.zero_le _, (at_alloc w _ _).alloc _, at_alloc2 w _ _ _, ((Fr.refl _ _).alloc _).alloc _⟩
  case round =>
    obtain ⟨k, rfl, hk, h0, h1, hw⟩ := hrel
    have hlt1 := h1.lt
    have hf0 := h0.frozen
    have hf1 := h1.frozen
    have e0 := h1.cell 0
    have e1 := h1.cell 1
    have e2 := h1.cell 2
    have z0 := h0.cell 0
    have z1 := h0.cell 1
    have z2 := h0.cell 2
    simp [statsV] at e0 e1 e2 z0 z1 z2
    by_cases hlt : k < l.length
    · obtain ⟨c, hce⟩ : ∃ c, l[k]? = some c := ⟨l[k], List.getElem?_eq_getElem hlt⟩
      obtain ⟨g, rfl, hbg, hgl, d0, d1, d2, _⟩ := hcell k c hce
      rw [← hw.below.cell (p := ⟨g, k * 3, none⟩) hgl] at d0
      rw [← hw.below.cell (p := ⟨g, k * 3 + 1, none⟩) hgl] at d1
      rw [← hw.below.cell (p := ⟨g, k * 3 + 2, none⟩) hgl] at d2
      have hgw : g < wr.heap.size := Nat.lt_of_lt_of_le hgl hw.size
      have HL : Hid (liveN (l.take (k + 1)) = _) := liveN_take hce
      have HD : Hid (deadN (l.take (k + 1)) = _) := deadN_take hce
      have HU : Hid (usedN (l.take (k + 1)) = _) := usedN_take hce
      have hb1 := usedN_le l (k + 1)
      have hb2 : liveN (l.take k) ≤ k := Nat.le_trans (liveN_le _) (by simp; omega)
      have hb3 : deadN (l.take k) ≤ k := Nat.le_trans (deadN_le _) (by simp; omega)
      have hb4 : usedN (l.take k) + (24 + c.blob.size) < 1073741824 := by have := HU.out; omega
      obtain ⟨ck, cb, cd⟩ := c
      have hb5 : cb.size < 1073741824 := by simp at hb4; omega
      have hb6 : usedN (l.take k) < 1073741824 := by omega
      have HS : Hid (statsV (l.take (k + 1)) = #[.int .i64 ((liveN (l.take k) + if cd then 0 else 1 : Nat) : Int), .int .i64 ((deadN (l.take k) + if cd then 1 else 0 : Nat) : Int), .int .i64 ((usedN (l.take k) + (24 + cb.size) : Nat) : Int)]) := by
        show _ = _
        unfold statsV
        rw [HL.out, HD.out, HU.out]
      unfold statsV at h1
      generalize liveN (l.take k) = q0 at *
      generalize deadN (l.take k) = q1 at *
      generalize usedN (l.take k) = q2 at *
      clear hce hcell HL HD HU hb1 hc
      cases cd
      · go_wp2_with fail
        refine ⟨⟨k + 1, by go_num, hlt, ((h0.setOther (by omega) _).setOther (by omega) _).alloc _, ?_, ((hw.setCell _ (.inr (by simp)) _).setCell _ (.inr (by simp)) _).alloc _⟩, by simp [intOf]; omega⟩
        rw [HS.out]
        exact ((h1.set 0 _).set 2 _).alloc _
      · go_wp2_with fail
        refine ⟨⟨k + 1, by go_num, hlt, ((h0.setOther (by omega) _).setOther (by omega) _).alloc _, ?_, ((hw.setCell _ (.inr (by simp)) _).setCell _ (.inr (by simp)) _).alloc _⟩, by simp [intOf]; omega⟩
        rw [HS.out]
        exact ((h1.set 1 _).set 2 _).alloc _
    · obtain rfl : k = l.length := by omega
      have HR : Hid (l.take l.length = l) := List.take_length
      rw [HR.out] at e0 e1 e2
      go_wp2_with fail
      have hA := ((h0.set 0 (.int .i64 (liveN l))).set 1 (.int .i64 (deadN l))).set 2 (.int .i64 (usedN l))
      refine bodyPost_ret (results_cell_row rfl _ _ w.heap.size 65 (statsV l) (0, 0) _ rfl hA Try.underlying65 rfl (by kernel_rfl)) rfl ?_
      exact ⟨rfl, ((hw.setCell _ (.inr (Nat.le_refl _)) _).setCell _ (.inr (Nat.le_refl _)) _).setCell _ (.inr (Nat.le_refl _)) _⟩
end Go.Proofs.Ytmeplfpnpogalaa.kp
