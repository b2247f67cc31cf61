/-
  Ranked.
-/
import Derived.Test.YtmeplfpnpogalaaKpZ
namespace Go.Proofs.Ytmeplfpnpogalaa.kp
open Go.RowKit dk

theorem liveN_liveE (l : List Ent) : liveN l = (liveE l).length := by
  unfold liveN liveE
  rw [List.countP_eq_length_filter]

set_option maxRecDepth 1000000 in
set_option maxHeartbeats 8000000 in
theorem ranked_any (w : World) (aS : Option Addr) (len cap : Nat) (n : Int) (after : ByteArray) (hlen : len ≤ 140737488355328) (hrow : StepRow w aS len) (hn1 : -9223372036854775808 ≤ n) (hn2 : n ≤ 9223372036854775807) :
    Calls Try.prog 7 #[.slice aS len cap, .int .i64 n, .string after] w fun e w' => e = .returned (.bool true) ∧ Fr [] w w' := by
  have HP := played_any w aS len cap hlen hrow
  clear hrow
  go_enter Try.func7, Try.ntmps7
  refine wp_seq_k fun K0 h0 => ?_
  have H0 : Hid _ := h0
  clear h0
  go_wp2_with fail
  refine H0.out _ _ ?_
  refine wp_seq_k fun K1 h1 => ?_
  have H1 : Hid _ := h1
  clear h1
  go_wp2_with fail
  refine HP.mono ?_
  rintro ev w0 ⟨hb, x, d, lb, v, o, rfl, hS, hf⟩
  have hol := hS.len
  have hel := entsF_length 0 o
  have g0 : w0.cell? ⟨hb, 0, none⟩ = some (.pointer (some ⟨x, 0, none⟩)) := hS.shop.cell 0
  go_wp2_with fail
  refine H1.out _ _ ?_
  refine wp_seq_k fun K2 h2 => ?_
  have H2 : Hid _ := h2
  clear h2
  go_wp2_with fail
  refine H2.out _ _ ?_
  refine wp_seq_k fun K4 h4 => ?_
  have H4 : Hid _ := h4
  clear h4
  go_wp2_with fail
  refine (pickK w0 n 45 (by decide) (by decide) hn1 hn2).mono ?_
  rintro ev w0' ⟨rfl, rfl⟩
  have hm := pickI_lt n 45 (by decide)
  generalize pickI n 45 = m at *
  go_wp2_with fail
  refine H4.out _ _ ?_
  refine wp_seq_k fun K5 h5 => ?_
  have H5 : Hid _ := h5
  clear h5
  go_wp2_with fail
  refine (stLargest _ w.heap.size x v (entsF 0 o) (m : Int) hS.store (by omega) (entsF_good o hol)).mono ?_
  rintro ev w1 ⟨v1, out, rfl, hown1, ⟨rest, ht⟩, hnum, hSt1, hf1⟩
  have hS1 := hS.store_set hf1 (fun y hy => by simp at hy; exact .inl hy) hSt1
  have hT1 : Touch w.heap.size w0' w1 := Touch.of hf1 (fun y hy => by simp at hy; subst hy; exact hS.store.le)
  have hF1 : Fr [] w w1 := Fr.touch hf hT1
  have hown1' : w1.ownsRow w0'.heap.size 9 1 v1 (out.map (·.key)).length (strsV (out.map (·.key))) := by rw [List.length_map]; exact hown1
  obtain ⟨aL, capL, rfl, hle3, hmx3, _⟩ := rowS hown1'
  rw [List.length_map] at *
  have g1 : w1.cell? ⟨hb, 0, none⟩ = some (.pointer (some ⟨x, 0, none⟩)) := hS1.shop.cell 0
  have HNUM : Hid (out.length = min m (liveE (entsF 0 o)).length) := by have := hnum; simp at this; exact this
  clear hS hf hSt1 hf1 hT1 g0 hown1' hnum
  go_wp2_with fail
  refine H5.out _ _ ?_
  refine wp_seq_k fun K6 h6 => ?_
  have H6 : Hid _ := h6
  clear h6
  go_wp2_with fail
  have HUS : usedN (entsF 0 o) = usedK o := usedK_eq 0 o hS1.ok
  have hu := usedK_le o hS1.ok
  refine (stStats w1 w.heap.size x v (entsF 0 o) hS1.store (by omega) (by rw [HUS]; omega)).mono ?_
  rintro ev w2 ⟨rfl, hSt2, hf2⟩
  have hS2 := hS1.store_set hf2 (fun y hy => by simp at hy; exact .inl hy) hSt2
  have hown2 := hf2.row hown1 (fun g hg => by simp; intro e; subst e; exact row_ne hS1.store.blk (by decide) hown1 hg)
  have hF2 : Fr [] w w2 := Fr.touch hF1 (Touch.of hf2 (fun y hy => by simp at hy; subst hy; exact hS1.store.le))
  have hsv : statsV (entsF 0 o) = #[.int .i64 ((liveE (entsF 0 o)).length : Nat), .int .i64 (deadN (entsF 0 o)), .int .i64 (usedK o)] := by
    unfold statsV
    rw [liveN_liveE, HUS]
  rw [hsv]
  have hll : (liveE (entsF 0 o)).length ≤ 40 := by
    have h3 : (liveE (entsF 0 o)).length ≤ (entsF 0 o).length := List.length_filter_le _ _
    omega
  clear hsv HUS hS1 hown1 hF1 hSt2 hf2 g1 hu
  generalize hL : (liveE (entsF 0 o)).length = L at *
  generalize deadN (entsF 0 o) = D at *
  generalize usedK o = U at *
  go_wp2_with fail
  have hA3 := at_alloc w2 #[.int .i64 (L : Nat), .int .i64 D, .int .i64 U] 65
  have hfa := (Fr.refl [] w2).alloc (.cells #[.int .i64 (L : Nat), .int .i64 D, .int .i64 U] 65)
  have hS3 := hS2.fr hfa
  have hown3 := hfa.row hown2 (by simp)
  have hF3 := hF2.trans hfa
  generalize w2.alloc (.cells #[.int .i64 (L : Nat), .int .i64 D, .int .i64 U] 65) = W3 at *
  have z0 : W3.cell? ⟨w2.heap.size, 0, none⟩ = some (.int .i64 (L : Nat)) := hA3.cell 0
  clear hA3 hfa hS2 hown2 hF2
  have HO : Hid (W3.ownsRow w0'.heap.size 9 1 (.slice aL out.length capL) (out.map (·.key)).length (strsV (out.map (·.key)))) := by
    show W3.ownsRow _ _ _ _ _ _
    rw [List.length_map]
    exact hown3
  clear hown3
  refine H6.out _ _ ?_
  refine wp_seq_k fun K7 h7 => ?_
  have H7 : Hid _ := h7
  clear h7
  go_wp2_with fail
  refine H7.out _ _ ?_
  have hnz := HNUM.out
  by_cases hlt : (m : Int) < (L : Int)
  · have hno : out.length = m := by omega
    have hne : ((out.length : Int) != (m : Int)) = false := by rw [hno]; simp
    clear hno hnz
    refine wp_seq_k fun K8 h8 => ?_
    have H8 : Hid _ := h8
    clear h8
    go_wp2_with fail
    refine H8.out _ _ ?_
    refine wp_seq_k fun K10 h10 => ?_
    have H10 : Hid _ := h10
    clear h10
    go_wp2_with fail
    refine H10.out _ _ ?_
    refine rankedTail12 W3 w.heap.size _ hb x d lb v o hS3 after m capL aL out rest ht (by omega) HO.out _ ?_
    intro w' hT
    exact ⟨rfl, Fr.touch hF3 hT⟩
  · have hno : out.length = L := by omega
    have hne : ((out.length : Int) != (L : Int)) = false := by rw [hno]; simp
    clear hno hnz
    refine wp_seq_k fun K8 h8 => ?_
    have H8 : Hid _ := h8
    clear h8
    go_wp2_with fail
    refine H8.out _ _ ?_
    refine wp_seq_k fun K10 h10 => ?_
    have H10 : Hid _ := h10
    clear h10
    go_wp2_with fail
    refine H10.out _ _ ?_
    refine rankedTail12 W3 w.heap.size _ hb x d lb v o hS3 after m capL aL out rest ht (by omega) HO.out _ ?_
    intro w' hT
    exact ⟨rfl, Fr.touch hF3 hT⟩
end Go.Proofs.Ytmeplfpnpogalaa.kp
