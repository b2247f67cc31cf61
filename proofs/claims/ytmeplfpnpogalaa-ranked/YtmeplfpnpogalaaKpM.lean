/-
  played.
-/
import Derived.Test.YtmeplfpnpogalaaKpL
namespace Go.Proofs.Ytmeplfpnpogalaa.kp
open Go.RowKit dk

set_option maxRecDepth 100000 in
set_option maxHeartbeats 8000000 in
theorem played_any (w : World) (aS : Option Addr) (len cap : Nat) (hlen : len ≤ 140737488355328) (hrow : StepRow w aS len) :
    Calls Try.prog 16 #[.slice aS len cap] w fun e w' => ∃ hb x d lb v o, e = .returned (.pointer (some ⟨hb, 0, none⟩)) ∧ ShopAt w' w.heap.size hb x d lb v o ∧ Fr [] w w' := by
  have HROW : Hid (StepRow w aS len) := hrow
  clear hrow
  go_enter Try.func16, Try.ntmps16
  go_wp2_with fail
  refine (opened w).mono ?_
  rintro ev w0 ⟨hb, x, d, lb, v0, rfl, hS0, hf0⟩
  go_wp2_with fail
  go_loopw [4] (fun y wr => ∃ (i : Nat) (v : Value) (o : List Kn), y = .int .i64 i ∧ i ≤ len ∧ ShopAt wr w.heap.size hb x d lb v o ∧ Fr [] w wr) (fun y _ => len - (intOf y).toNat)
  case atStart => exact ⟨0, v0, kn0, rfl, Nat.zero_le _, hS0, hf0⟩
  case round =>
    obtain ⟨i, v, o, rfl, hi, hS, hf⟩ := hrel
    clear hS0 hf0
    by_cases hlt : i < len
    · obtain ⟨b, off, rfl, hbl, kind, p, q, s, d0, d1, d2, d3, hp, hq, hs⟩ := HROW.out i hlt
      rw [← hf.below.cell (p := ⟨b, off + i * 4, none⟩) hbl] at d0
      rw [← hf.below.cell (p := ⟨b, off + i * 4 + 1, none⟩) hbl] at d1
      rw [← hf.below.cell (p := ⟨b, off + i * 4 + 2, none⟩) hbl] at d2
      rw [← hf.below.cell (p := ⟨b, off + i * 4 + 3, none⟩) hbl] at d3
      have HA := shopStep wr w.heap.size hb x d lb v o kind p q s hS hp hq hs
      have hi1 : (i : Int) < (len : Int) := by omega
      have hi0 : (0 : Int) ≤ (i : Int) := by omega
      clear hS hp hq hs
      go_wp2_with fail
      refine HA.mono ?_
      rintro ev w1 ⟨v1, o1, rfl, hS1, hT1⟩
      have hf1 := Fr.touch hf hT1
      clear HA hT1 hf d0 d1 d2 d3
      go_wp2_with fail
      exact ⟨⟨i + 1, v1, o1, by go_num, hlt, hS1, hf1⟩, by simp [intOf]; omega⟩
    · obtain rfl : i = len := by omega
      have hdec : decide ((i : Int) < (i : Int)) = false := by simp
      go_wp2_with fail
      go_ret
      exact ⟨hb, x, d, lb, v, o, rfl, hS, hf⟩
end Go.Proofs.Ytmeplfpnpogalaa.kp
