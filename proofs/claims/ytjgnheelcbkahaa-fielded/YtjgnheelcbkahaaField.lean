import Derived.Test.YtjgnheelcbkahaaRows
import Derived.Test.YtjgnheelcbkahaaGf
import Derived.WalkKit
import Derived.ProofKit
import Derived.OpenShut
import Derived.Laws.BitsAllLaws
namespace Go.Proofs.Ytjgnheelcbkahaa.fielded
open Go.ChangeShapes Go.WideShapes Go.ChangeAt Go.RowKit
theorem ret_int {k : IntKind} {a b : Int} (h : a = b) : Ending.returned (.int k a) = .returned (.int k b) := by rw [h]

set_option maxHeartbeats 400000 in
theorem dbl_any (a : Nat) (h : a < 256) (w : World) :
    Calls Try.prog 22 #[.int .u8 a] w fun e w' => e = .returned (.int .u8 (Gf.dbl a : Nat)) ∧ w' = w := by
  by_cases h2 : 255 < 2 * a
  · go_enter Try.func22, Try.ntmps22
    go_wp2
    go_ret
    refine ⟨ret_int ?_, rfl⟩
    have e : ((a : Int) * 2) = ((2 * a : Nat) : Int) := by omega
    have l := Gf.dbl_lt a h
    have d : Gf.dbl a = (2 * a) ^^^ 285 := if_pos h2
    rw [e, show (285 : Int) = ((285 : Nat) : Int) from rfl, u64_xor_nat _ _ (by omega) (by decide), ← d]
    omega
  · go_enter Try.func22, Try.ntmps22
    go_wp2
    go_ret
    have d : Gf.dbl a = 2 * a := if_neg h2
    exact ⟨ret_int (by rw [d]; omega), rfl⟩

set_option maxHeartbeats 400000 in
theorem mul_any (a b : Nat) (ha : a < 256) (hb : b < 256) (w : World) :
    Calls Try.prog 11 #[.int .u8 a, .int .u8 b] w fun e w' => e = .returned (.int .u8 (Gf.mul a b : Nat)) ∧ w' = w := by
  go_enter Try.func11, Try.ntmps11
  go_wp2
  go_loop [0, 1, 5] (fun x y z => ∃ n c d p : Nat, x = .int .u8 c ∧ y = .int .u8 d ∧ z = .int .u8 p ∧ c < 256 ∧ d < 2 ^ n ∧ n ≤ 8 ∧ p < 256 ∧ Gf.gm n c d p = Gf.mul a b) (fun _ y _ => (intOf y).toNat)
  case atStart => exact ⟨8, a, b, 0, rfl, rfl, rfl, ha, hb, by decide, by decide, rfl⟩
  case round =>
    obtain ⟨n, c, d, p, rfl, rfl, rfl, hc, hd, hn, hp, hg⟩ := hrel
    have HG : Hid (Gf.gm n c d p = Gf.mul a b) := hg
    clear hg
    by_cases h0 : 0 < d
    · obtain ⟨m, rfl⟩ : ∃ m, n = m + 1 := by
        cases n with
        | zero => simp at hd; omega
        | succ m => exact ⟨m, rfl⟩
      have hd8 : d < 256 := by have : 2 ^ (m + 1) ≤ 2 ^ 8 := Nat.pow_le_pow_right (by decide) hn
                               omega
      have hd2 : d / 2 < 2 ^ m := by rw [Nat.pow_succ] at hd; omega
      have hand : bits .and .u8 (d : Int) 1 = ((d % 2 : Nat) : Int) := by
        rw [show (1 : Int) = ((1 : Nat) : Int) from rfl, u8_and_nat d 1 hd8 (by decide), Nat.and_one_is_mod]
      clear hd
      by_cases ho : d % 2 = 1
      · have ht : (bits .and .u8 (d : Int) 1 == 1) = true := by rw [hand, ho]; rfl
        have hx : bits .xor .u8 (p : Int) (c : Int) = ((p ^^^ c : Nat) : Int) := u8_xor_nat p c hp hc
        have HG2 : Hid (Gf.gm m (Gf.dbl c) (d / 2) (p ^^^ c) = Gf.mul a b) := by
          have := HG.out
          rw [Gf.gm, if_pos ho] at this
          exact this
        clear hand ho
        go_wp2_with (go_at_call 22; refine (dbl_any c hc _).mono ?_; rintro e w' ⟨rfl, rfl⟩)
        go_round
        case rel => exact ⟨m, Gf.dbl c, d / 2, p ^^^ c, rfl, by go_num, rfl, Gf.dbl_lt c hc, hd2, by omega, Gf.xor_lt _ _ hp hc, HG2.out⟩
        case measure => simp [intOf]; omega
      · have ht : (bits .and .u8 (d : Int) 1 == 1) = false := by
          rw [hand, show d % 2 = 0 from by omega]; rfl
        have HG2 : Hid (Gf.gm m (Gf.dbl c) (d / 2) p = Gf.mul a b) := by
          have := HG.out
          rw [Gf.gm, if_neg ho] at this
          exact this
        clear hand ho
        go_wp2_with (go_at_call 22; refine (dbl_any c hc _).mono ?_; rintro e w' ⟨rfl, rfl⟩)
        go_round
        case rel => exact ⟨m, Gf.dbl c, d / 2, p, rfl, by go_num, rfl, Gf.dbl_lt c hc, hd2, by omega, hp, HG2.out⟩
        case measure => simp [intOf]; omega
    · obtain rfl : d = 0 := by omega
      have HG2 : Hid (p = Gf.mul a b) := by have := HG.out; rw [Gf.gm_zero] at this; exact this
      go_wp2
      go_ret
      exact ⟨ret_int (by rw [HG2.out]), rfl⟩

set_option maxHeartbeats 400000 in
theorem inv_any (a : Nat) (ha : a < 256) (w : World) :
    Calls Try.prog 20 #[.int .u8 a] w fun e w' => e = .returned (.int .u8 (Gf.inv a : Nat)) ∧ w' = w := by
  go_enter Try.func20, Try.ntmps20
  go_wp2
  go_loop [3, 4, 6] (fun x y z => ∃ n k s p : Nat, x = .int .u8 s ∧ y = .int .u8 p ∧ z = .int .i64 k ∧ s < 256 ∧ p < 256 ∧ n + k = 7 ∧ Gf.ip n s p = Gf.inv a) (fun _ _ z => 7 - (intOf z).toNat)
  case atStart => exact ⟨7, 0, a, 1, rfl, rfl, rfl, ha, by decide, rfl, rfl⟩
  case round =>
    obtain ⟨n, k, s, p, rfl, rfl, rfl, hs, hp, hk, hg⟩ := hrel
    have HG : Hid (Gf.ip n s p = Gf.inv a) := hg
    have HK : Hid (n + k = 7) := hk
    clear hg hk
    cases n with
    | zero =>
      have hk : 7 ≤ k := by have := HK.out; omega
      have HG2 : Hid (p = Gf.inv a) := HG.out
      go_wp2
      go_ret
      exact ⟨ret_int (by rw [HG2.out]), rfl⟩
    | succ n =>
      have hk : k < 7 := by have := HK.out; omega
      go_wp2_with fail
      refine (mul_any s s hs hs _).mono ?_
      rintro e w' ⟨rfl, rfl⟩
      go_wp2_with fail
      refine (mul_any p (Gf.mul s s) hp (Gf.mul_lt s s hs) _).mono ?_
      rintro e w' ⟨rfl, rfl⟩
      go_wp2_with fail
      go_round
      case rel => exact ⟨n, k + 1, Gf.mul s s, Gf.mul p (Gf.mul s s), rfl, rfl, by go_num, Gf.mul_lt s s hs, Gf.mul_lt _ _ hp, by have := HK.out; omega, HG.out⟩
      case measure => simp [intOf]; omega

theorem cmul_any (a b : Nat) (ha : a < 256) (hb : b < 256) (w : World) :
    Calls Try.prog 6 #[.int .u8 a, .int .u8 b] w fun e w' => e = .returned (.int .u8 (Gf.mul a b : Nat)) ∧ w' = w := by
  go_enter Try.func6, Try.ntmps6
  go_wp2_with fail
  refine (mul_any a b ha hb _).mono ?_
  rintro e w' ⟨rfl, rfl⟩
  go_wp2_with fail
  go_ret
  exact ⟨rfl, rfl⟩

theorem cinv_zero (w : World) :
    Calls Try.prog 9 #[.int .u8 0] w fun e w' => e = .returned (.tuple #[.int .u8 0, .int .i64 7]) ∧ w' = w := by
  go_enter Try.func9, Try.ntmps9
  go_wp2_with fail
  go_ret2
  exact ⟨rfl, rfl⟩

theorem cinv_any (a : Nat) (ha : a < 256) (h0 : 0 < a) (w : World) :
    Calls Try.prog 9 #[.int .u8 a] w fun e w' => e = .returned (.tuple #[.int .u8 (Gf.inv a : Nat), .int .i64 0]) ∧ w' = w := by
  have h1 : ((a : Int) == 0) = false := by simp; omega
  go_enter Try.func9, Try.ntmps9
  go_wp2_with fail
  refine (inv_any a ha _).mono ?_
  rintro e w' ⟨rfl, rfl⟩
  go_wp2_with fail
  go_ret2
  exact ⟨rfl, rfl⟩
end Go.Proofs.Ytjgnheelcbkahaa.fielded
