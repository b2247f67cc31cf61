/-
  shelf.act, whatever the act; Disks.
-/
import Derived.Test.YtjgnheelcbkahaaDkZb
import Derived.Test.YtjgnheelcbkahaaField
namespace Go.Proofs.Ytjgnheelcbkahaa.dk
open Go.RowKit

theorem act_any (w : World) (base bS bD N : Nat) (hst : St w base bS bD N) (hN : N < 16777216) (kind on a b : Int) (s : ByteArray) (ho1 : -9223372036854775808 ≤ on) (ho2 : on ≤ 9223372036854775807) (ha1 : -9223372036854775808 ≤ a) (ha2 : a ≤ 9223372036854775807) :
    Calls Try.prog 7 #[.pointer (some ⟨bS, 0, none⟩), .agg #[.int .i64 kind, .int .i64 on, .int .i64 a, .int .i64 b, .string s]] w fun ev w' => ev = .returned (.bool true) ∧ St w' base bS bD (N + 1) ∧ Below base w w' := by
  obtain ⟨vL, n, vI, vN, G, E, tag, h⟩ := hst.cx
  by_cases k1 : kind = 1
  · subst k1; exact act_new w base bS bD N vL n vI vN G E tag h hN on a b s
  by_cases hE : E = []
  · exact act_none w base bS bD N vL n vI vN G E tag h hE kind on a b s k1
  have hE2 : 0 < E.length := List.length_pos_iff.2 hE
  by_cases k2 : kind = 2
  · subst k2; exact act_write w base bS bD N vL n vI vN G E tag h hN hE2 on a b s ho1 ho2
  by_cases k3 : kind = 3
  · subst k3; exact act_sync w base bS bD N vL n vI vN G E tag h hN hE2 on a b s ho1 ho2
  refine act_told w base bS bD N vL n vI vN G E tag h hN hE2 kind on a b s (by omega) ho1 ho2 ?_
  intro w' i e hf he
  have h' := h.fr hf
  by_cases k4 : kind = 4
  · subst k4; exact told_read w' base bS bD N vL n vI vN G E tag h' hN i e he on a b s
  by_cases k5 : kind = 5
  · subst k5; exact told_spoil w' base bS bD N vL n vI vN G E tag h' hN i e he on a b s
  by_cases k6 : kind = 6
  · subst k6; exact told_bytes w' base bS bD N vL n vI vN G E tag h' hN i e he on a b s
  by_cases k7 : kind = 7
  · subst k7; exact told_harmed w' base bS bD N vL n vI vN G E tag h' hN i e he on a b s
  by_cases k8 : kind = 8
  · subst k8; exact told_stop w' base bS bD N vL n vI vN G E tag h' i e he on a b s ha2
  by_cases k9 : kind = 9
  · subst k9; exact told_stands w' base bS bD N vL n vI vN G E tag h' i e he on a b s
  by_cases k10 : kind = 10
  · subst k10; exact told_crash w' base bS bD N vL n vI vN G E tag h' hN i e he on a b s ha1 ha2
  exact told_other w' base bS bD N vL n vI vN G E tag h' e kind on a b s (by omega)

theorem St.fr0 {w w' : World} {base bS bD N : Nat} (h : St w base bS bD N) (hf : Fr [] w w') : St w' base bS bD N := by
  obtain ⟨vL, n, vI, vN, G, E, tag, h1⟩ := h.cx
  exact (h1.fr hf).st

theorem st_new (w : World) : St ((w.alloc (.cells (drwCells 0 (.slice none 0 0) (.slice none 0 0)) 32)).alloc (.cells #[.slice none 0 0, .pointer (some ⟨w.heap.size, 0, none⟩)] 35)) w.heap.size (w.heap.size + 1) w.heap.size 0 := by
  obtain ⟨b1, b2⟩ := boxes w (drwCells 0 (.slice none 0 0) (.slice none 0 0)) #[.slice none 0 0, .pointer (some ⟨w.heap.size, 0, none⟩)] 32 35
  have nn : ∀ t tag, OwnT tag (Value.slice none 0 0) t := fun t tag k hk => by simp [Value.ownBlock] at hk
  refine ⟨.slice none 0 0, 0, .slice none 0 0, .slice none 0 0, [], [], fun k => if k = w.heap.size + 1 then 0 else 2, ⟨⟨b2, World.ownsRow_nil _ _ _ _, ⟨b1, World.ownsRow_nil _ _ _ _, World.ownsRow_nil _ _ _ _, by simp⟩, by simp, nn _ _, ?_, nn _ _, nn _ _, by simp, by omega, Nat.le_refl _⟩, by simp⟩, by simp, Nat.le_refl _, Nat.zero_le _, by simp, by omega, by omega, by simp; omega⟩
  simp

/-- an act of the script, as it lies in memory -/
def ActRow (w : World) (aS : Option Addr) (len : Nat) : Prop :=
  ∀ i, i < len → ∃ b off, aS = some ⟨b, off, none⟩ ∧ b < w.heap.size ∧ ∃ (kind on x y : Int) (s : ByteArray), w.cell? ⟨b, off + i * 5, none⟩ = some (.int .i64 kind) ∧ w.cell? ⟨b, off + i * 5 + 1, none⟩ = some (.int .i64 on) ∧ w.cell? ⟨b, off + i * 5 + 2, none⟩ = some (.int .i64 x) ∧ w.cell? ⟨b, off + i * 5 + 3, none⟩ = some (.int .i64 y) ∧ w.cell? ⟨b, off + i * 5 + 4, none⟩ = some (.string s) ∧
    -9223372036854775808 ≤ on ∧ on ≤ 9223372036854775807 ∧ -9223372036854775808 ≤ x ∧ x ≤ 9223372036854775807

set_option maxRecDepth 100000 in
set_option maxHeartbeats 8000000 in
theorem disks_any (w : World) (aS : Option Addr) (len cap : Nat) (hlen : len ≤ 1048576) (hrow : ActRow w aS len) :
    Calls Try.prog 3 #[.slice aS len cap] w fun e w' => e = .returned (.bool true) ∧ Below w.heap.size w w' := by
  have HROW : Hid (ActRow w aS len) := hrow
  have HST := st_new w
  clear hrow
  go_enter Try.func3, Try.ntmps3
  go_wp2_with fail
  refine (fielded.cmul_any 2 128 (by decide) (by decide) _).mono ?_
  rintro ev w0 ⟨rfl, rfl⟩
  rw [Gf.two128]
  go_wp2_with fail
  go_loopw [4, 6] (fun f x wr => ∃ i : Nat, f = .bool true ∧ x = .int .i64 i ∧ i ≤ len ∧ St wr w0.heap.size (w0.heap.size + 1) w0.heap.size i ∧ Below w0.heap.size w0 wr) (fun _ x _ => len - (intOf x).toNat)
  case atStart => exact ⟨0, rfl, rfl, Nat.zero_le _, HST, ((Below.refl _ _).alloc (Nat.le_refl _) _).alloc (by simp) _⟩
  case round =>
    obtain ⟨i, rfl, rfl, hi, hst, hbe⟩ := hrel
    clear HST
    by_cases hlt : i < len
    · obtain ⟨b, off, rfl, hbl, kind, on, x, y, s, d0, d1, d2, d3, d4, o1, o2, x1, x2⟩ := HROW.out i hlt
      rw [← hbe.cell (p := ⟨b, off + i * 5, none⟩) hbl] at d0
      rw [← hbe.cell (p := ⟨b, off + i * 5 + 1, none⟩) hbl] at d1
      rw [← hbe.cell (p := ⟨b, off + i * 5 + 2, none⟩) hbl] at d2
      rw [← hbe.cell (p := ⟨b, off + i * 5 + 3, none⟩) hbl] at d3
      rw [← hbe.cell (p := ⟨b, off + i * 5 + 4, none⟩) hbl] at d4
      have HA := act_any wr _ _ _ i hst (by omega) kind on x y s o1 o2 x1 x2
      have HB : Hid (Below w0.heap.size w0 wr) := hbe
      have hi1 : (i : Int) < (len : Int) := by omega
      have hi0 : (0 : Int) ≤ (i : Int) := by omega
      clear hst hbe o1 o2 x1 x2
      go_wp2_with fail
      refine HA.mono ?_
      rintro ev w1 ⟨rfl, hst1, hbe1⟩
      obtain ⟨vL, n, vI, vN, G, E, tag, hX⟩ := hst1.cx
      have hcS : w1.cell? ⟨w0.heap.size + 1, 1, none⟩ = some (.pointer (some ⟨w0.heap.size, 0, none⟩)) := hX.all.core.shelf.cell 1
      have HK := looks_any w1 w0.heap.size w0.heap.size n vI vN G hX.all.core.drw (by have := hX.gl; omega) (fun g hg => by have := hX.gn g hg; omega)
      have HS : Hid (St w1 w0.heap.size (w0.heap.size + 1) w0.heap.size (i + 1) ∧ Below w0.heap.size wr w1 ∧ w0.heap.size ≤ w1.heap.size) := ⟨hst1, hbe1, hX.hb⟩
      clear hst1 hbe1 hX d0 d1 d2 d3 d4 HA
      go_wp2_with fail
      refine HK.mono ?_
      rintro ev w2 ⟨rfl, f2⟩
      go_wp2_with fail
      obtain ⟨hst1, hbe1, hsz⟩ := HS.out
      exact ⟨⟨i + 1, rfl, by go_num, hlt, hst1.fr0 f2, (HB.out.trans hbe1).trans (f2.belowS hsz (by simp))⟩, by simp [intOf]; omega⟩
    · obtain rfl : i = len := by omega
      have hdec : decide ((i : Int) < (i : Int)) = false := by simp
      clear hst
      go_wp2_with fail
      go_ret
      exact ⟨rfl, hbe⟩

end Go.Proofs.Ytjgnheelcbkahaa.dk
