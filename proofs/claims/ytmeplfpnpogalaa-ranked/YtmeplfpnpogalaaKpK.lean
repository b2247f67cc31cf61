/-
  Kept: the walk.
-/
import Derived.Test.YtmeplfpnpogalaaKpJ
namespace Go.Proofs.Ytmeplfpnpogalaa.kp
open Go.RowKit dk

theorem Fr.touch {a w w' : World} (h : Fr [] a w) (h2 : Touch a.heap.size w w') : Fr [] a w' := by
  obtain ⟨S, hf, hS⟩ := h2
  exact Fr.then h hf hS
/-- a step of the script, as it lies in memory -/
def StepRow (w : World) (aS : Option Addr) (len : Nat) : Prop :=
  ∀ i, i < len → ∃ b off, aS = some ⟨b, off, none⟩ ∧ b < w.heap.size ∧ ∃ (kind x y : Int) (s : ByteArray), w.cell? ⟨b, off + i * 4, none⟩ = some (.int .i64 kind) ∧ w.cell? ⟨b, off + i * 4 + 1, none⟩ = some (.int .i64 x) ∧ w.cell? ⟨b, off + i * 4 + 2, none⟩ = some (.int .i64 y) ∧ w.cell? ⟨b, off + i * 4 + 3, none⟩ = some (.string s) ∧
    I64 x ∧ I64 y ∧ s.size ≤ 140737488355328

set_option maxRecDepth 100000 in
set_option maxHeartbeats 8000000 in
theorem kept_any (w : World) (aS : Option Addr) (len cap : Nat) (hlen : len ≤ 140737488355328) (hrow : StepRow w aS len) :
    Calls Try.prog 6 #[.slice aS len cap] w fun e w' => e = .returned (.bool true) ∧ Fr [] w w' := by
  have HROW : Hid (StepRow w aS len) := hrow
  clear hrow
  go_enter Try.func6, Try.ntmps6
  go_wp2_with fail
  refine (opened w).mono ?_
  rintro ev w0 ⟨hb, x, d, lb, v0, rfl, hS0, hf0⟩
  go_wp2_with fail
  go_loopw [4] (fun y wr => ∃ (i : Nat) (v : Value) (o : List Kn), y = .int .i64 i ∧ i ≤ len ∧ ShopAt wr w.heap.size hb x d lb v o ∧ Fr [] w wr) (fun y _ => len - (intOf y).toNat)
  case atStart => exact ⟨0, v0, kn0, rfl, Nat.zero_le _, hS0, hf0⟩
  case round =>
    obtain ⟨i, v, o, rfl, hi, hS, hf⟩ := hrel
    clear hS0 hf0
    by_cases hlt : i < len
    · obtain ⟨b, off, rfl, hbl, kind, p, q, s, d0, d1, d2, d3, hp, hq, hs⟩ := HROW.out i hlt
      rw [← hf.below.cell (p := ⟨b, off + i * 4, none⟩) hbl] at d0
      rw [← hf.below.cell (p := ⟨b, off + i * 4 + 1, none⟩) hbl] at d1
      rw [← hf.below.cell (p := ⟨b, off + i * 4 + 2, none⟩) hbl] at d2
      rw [← hf.below.cell (p := ⟨b, off + i * 4 + 3, none⟩) hbl] at d3
      have HA := shopStep wr w.heap.size hb x d lb v o kind p q s hS hp hq hs
      have hi1 : (i : Int) < (len : Int) := by omega
      have hi0 : (0 : Int) ≤ (i : Int) := by omega
      clear hS hp hq hs
      go_wp2_with fail
      refine HA.mono ?_
      rintro ev w1 ⟨v1, o1, rfl, hS1, hT1⟩
      have hf1 := Fr.touch hf hT1
      have g0 : w1.cell? ⟨hb, 0, none⟩ = some (.pointer (some ⟨x, 0, none⟩)) := hS1.shop.cell 0
      clear HA hT1 hf d0 d1 d2 d3
      go_wp2_with fail
      refine (shopRight w1 w.heap.size hb x d lb v1 o1 hS1).mono ?_
      rintro ev w2 ⟨rfl, hS2, hT2⟩
      have hf2 := Fr.touch hf1 hT2
      clear hS1 hT2 hf1 g0
      go_wp2_with fail
      exact ⟨⟨i + 1, v1, o1, by go_num, hlt, hS2, hf2⟩, by simp [intOf]; omega⟩
    · obtain rfl : i = len := by omega
      have hdec : decide ((i : Int) < (i : Int)) = false := by simp
      clear hS
      go_wp2_with fail
      go_ret
      exact ⟨rfl, hf⟩
end Go.Proofs.Ytmeplfpnpogalaa.kp
