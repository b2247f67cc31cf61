/-
  heap.down.
-/
import Derived.Test.YtmeplfpnpogalaaKpQ
namespace Go.Proofs.Ytmeplfpnpogalaa.kp
open Go.RowKit dk

set_option maxRecDepth 100000 in
set_option maxHeartbeats 8000000 in
theorem heapDown (w : World) (base p : Nat) (v : Value) (l : List Ent) (n : Nat) (h : HeapAt w base p v l) (hg : Goods l) (hn : n < l.length) (hu : DownAt leG (atE l) n 0) :
    Calls Try.prog 115 #[hI p, .int .i64 0, .int .i64 n] w fun e w' => ∃ (u : Value) (l' : List Ent), e = .returned u ∧ HeapAt w' base p v l' ∧ l'.Perm l ∧ atE l' n = atE l n ∧ Heap leG (atE l') n ∧ Fr (own v) w w' := by
  unfold hI
  have hsm := h.small
  go_enter Try.func115, Try.ntmps115
  go_wp2_with fail
  go_loopw [7] (fun y wr => ∃ (i : Nat) (l' : List Ent), y = .int .i64 i ∧ i ≤ n ∧ HeapAt wr base p v l' ∧ l'.Perm l ∧ Hid (DownAt leG (atE l') n i) ∧ Hid (atE l' n = atE l n) ∧ Fr (own v) w wr) (fun y _ => n - (intOf y).toNat)
  case atStart => exact ⟨0, l, rfl, Nat.zero_le _, h, List.Perm.refl _, hu, (rfl : atE l n = atE l n), Fr.refl _ _⟩
  case round =>
    obtain ⟨i, l', rfl, hi, hH, hP, HU, HN, hf⟩ := hrel
    have hlen := hP.length_eq
    have hg' : Goods l' := fun e he => hg e (hP.mem_iff.1 he)
    have c0 : wr.cell? ⟨p, 0, none⟩ = some v := hH.blk.cell 0
    have hmL := fun W (hW : W.cell? ⟨p, 0, none⟩ = some v) => mLess W p v hW
    have hmS := fun W (hW : W.cell? ⟨p, 0, none⟩ = some v) => mSwap W p v hW
    by_cases h1 : n ≤ 2 * i + 1
    · clear hmL hmS
      go_wp2_with fail
      go_ret
      first
        | exact ⟨_, l', rfl, hH, hP, HN.out, HU.out.done (fun c hc hcn hcp => by omega), hf⟩
        | exact ⟨⟨_, rfl⟩, l', hH, hP, HN.out, HU.out.done (fun c hc hcn hcp => by omega), hf⟩
    · have hl0 : i < l'.length := by omega
      have hl1 : 2 * i + 1 < l'.length := by omega
      have hq1 : ((2 * i + 1 : Nat) : Int) = 2 * (i : Int) + 1 := by omega
      have hnn : ¬ 2 * (i : Int) + 1 < 0 := by omega
      have hmL0 := hmL wr c0
      have hq2 : ((2 * i + 2 : Nat) : Int) = 2 * (i : Int) + 1 + 1 := by omega
      by_cases h2 : 2 * i + 2 < n
      · have hl2 : 2 * i + 2 < l'.length := by omega
        have CLa := lfLess wr base v l' (2 * i + 2) (2 * i + 1) _ _ hH.row (atE_get hl2) (atE_get hl1)
        rw [hq1, hq2] at CLa
        go_wp2_with fail
        refine CLa.mono ?_
        rintro e w1 ⟨rfl, hf1⟩
        have hB1 := hf1.at hH.blk (by simp)
        have hr1 := hf1.row hH.row (by simp)
        have c1 : w1.cell? ⟨p, 0, none⟩ = some v := hB1.cell 0
        have hmL1 := hmL w1 c1
        clear CLa hmL0 c0
        cases hA2 : ahead (atE l' (2 * i + 2)) (atE l' (2 * i + 1)) with
        | true =>
          have hsib : ∀ c, 0 < c → c < n → (c - 1) / 2 = i → leG (atE l' (2 * i + 2)) (atE l' c) := fun c hc hcn hcp => by
            have hcc : c = 2 * i + 1 ∨ c = 2 * i + 2 := by omega
            rcases hcc with rfl | rfl
            · exact ⟨hg'.at hl2, hg'.at hl1, leE_total (hg'.at hl2) (hg'.at hl1) hA2⟩
            · exact ⟨hg'.at hl2, hg'.at hl2, leE_refl (hg'.at hl2)⟩
          go_wp2_with fail
          have CLb := lfLess w1 base v l' (2 * i + 2) i _ _ hr1 (atE_get hl2) (atE_get hl0)
          rw [hq2] at CLb
          refine CLb.mono ?_
          rintro e w2 ⟨rfl, hf2⟩
          have hB2 := hf2.at hB1 (by simp)
          have hr2 := hf2.row hr1 (by simp)
          have c2 : w2.cell? ⟨p, 0, none⟩ = some v := hB2.cell 0
          have hmS2 := hmS w2 c2
          clear CLb
          cases hA : ahead (atE l' (2 * i + 2)) (atE l' i) with
          | false =>
            have hdn : Heap leG (atE l') n := HU.out.done (fun c hc hcn hcp => leG_trans _ _ _ ⟨hg'.at hl0, hg'.at hl2, hA⟩ (hsib c hc hcn hcp))
            have hfx := (hf.trans hf1.nil).trans hf2.nil
            clear hmS hmS2 hmL
            go_wp2_with fail
            go_ret
            first
              | exact ⟨_, l', rfl, ⟨hB2, hr2, hH.le, hH.small⟩, hP, HN.out, hdn, hfx⟩
              | exact ⟨⟨_, rfl⟩, l', ⟨hB2, hr2, hH.le, hH.small⟩, hP, HN.out, hdn, hfx⟩
          | true =>
            have CS := lfSwap w2 base v l' i (2 * i + 2) _ _ hr2 (atE_get hl0) (atE_get hl2)
            rw [hq2] at CS
            have hst := HU.out.step (j := 2 * i + 2) (by omega) (by omega) (by omega) ⟨hg'.at hl2, hg'.at hl0, leE_total (hg'.at hl2) (hg'.at hl0) hA⟩ hsib
            rw [← atE_swap hl0 hl2] at hst
            have hlen2 : ((l'.set i (atE l' (2 * i + 2))).set (2 * i + 2) (atE l' i)).length = l'.length := by simp
            have hsame : atE ((l'.set i (atE l' (2 * i + 2))).set (2 * i + 2) (atE l' i)) n = atE l n := by
              rw [atE_swap hl0 hl2, ← HN.out]
              unfold swapF
              rw [if_neg (by omega), if_neg (by omega)]
            have hfx := (hf.trans hf1.nil).trans hf2.nil
            clear hmS hmL
            go_wp2_with fail
            refine CS.mono ?_
            rintro e w3 ⟨rfl, hr3, hf3⟩
            go_wp2_with fail
            refine ⟨⟨2 * i + 2, _, by rw [hq2], by omega, ⟨hf3.at hB2 (not_own hB2 (by decide) hr2), by rw [hlen2]; exact hr3, hH.le, by rw [hlen2]; exact hH.small⟩, (perm_swap (atE_get hl0) (atE_get hl2)).trans hP, hst, hsame, hfx.trans hf3⟩, ?_⟩
            simp [intOf]
            omega
        | false =>
          have hsib : ∀ c, 0 < c → c < n → (c - 1) / 2 = i → leG (atE l' (2 * i + 1)) (atE l' c) := fun c hc hcn hcp => by
            have hcc : c = 2 * i + 1 ∨ c = 2 * i + 2 := by omega
            rcases hcc with rfl | rfl
            · exact ⟨hg'.at hl1, hg'.at hl1, leE_refl (hg'.at hl1)⟩
            · exact ⟨hg'.at hl1, hg'.at hl2, hA2⟩
          go_wp2_with fail
          have CLb := lfLess w1 base v l' (2 * i + 1) i _ _ hr1 (atE_get hl1) (atE_get hl0)
          rw [hq1] at CLb
          refine CLb.mono ?_
          rintro e w2 ⟨rfl, hf2⟩
          have hB2 := hf2.at hB1 (by simp)
          have hr2 := hf2.row hr1 (by simp)
          have c2 : w2.cell? ⟨p, 0, none⟩ = some v := hB2.cell 0
          have hmS2 := hmS w2 c2
          clear CLb
          cases hA : ahead (atE l' (2 * i + 1)) (atE l' i) with
          | false =>
            have hdn : Heap leG (atE l') n := HU.out.done (fun c hc hcn hcp => leG_trans _ _ _ ⟨hg'.at hl0, hg'.at hl1, hA⟩ (hsib c hc hcn hcp))
            have hfx := (hf.trans hf1.nil).trans hf2.nil
            clear hmS hmS2 hmL
            go_wp2_with fail
            go_ret
            first
              | exact ⟨_, l', rfl, ⟨hB2, hr2, hH.le, hH.small⟩, hP, HN.out, hdn, hfx⟩
              | exact ⟨⟨_, rfl⟩, l', ⟨hB2, hr2, hH.le, hH.small⟩, hP, HN.out, hdn, hfx⟩
          | true =>
            have CS := lfSwap w2 base v l' i (2 * i + 1) _ _ hr2 (atE_get hl0) (atE_get hl1)
            rw [hq1] at CS
            have hst := HU.out.step (j := 2 * i + 1) (by omega) (by omega) (by omega) ⟨hg'.at hl1, hg'.at hl0, leE_total (hg'.at hl1) (hg'.at hl0) hA⟩ hsib
            rw [← atE_swap hl0 hl1] at hst
            have hlen2 : ((l'.set i (atE l' (2 * i + 1))).set (2 * i + 1) (atE l' i)).length = l'.length := by simp
            have hsame : atE ((l'.set i (atE l' (2 * i + 1))).set (2 * i + 1) (atE l' i)) n = atE l n := by
              rw [atE_swap hl0 hl1, ← HN.out]
              unfold swapF
              rw [if_neg (by omega), if_neg (by omega)]
            have hfx := (hf.trans hf1.nil).trans hf2.nil
            clear hmS hmL
            go_wp2_with fail
            refine CS.mono ?_
            rintro e w3 ⟨rfl, hr3, hf3⟩
            go_wp2_with fail
            refine ⟨⟨2 * i + 1, _, by rw [hq1], by omega, ⟨hf3.at hB2 (not_own hB2 (by decide) hr2), by rw [hlen2]; exact hr3, hH.le, by rw [hlen2]; exact hH.small⟩, (perm_swap (atE_get hl0) (atE_get hl1)).trans hP, hst, hsame, hfx.trans hf3⟩, ?_⟩
            simp [intOf]
            omega
      · have hsib : ∀ c, 0 < c → c < n → (c - 1) / 2 = i → leG (atE l' (2 * i + 1)) (atE l' c) := fun c hc hcn hcp => by
          have hcc : c = 2 * i + 1 := by omega
          rw [hcc]
          exact ⟨hg'.at hl1, hg'.at hl1, leE_refl (hg'.at hl1)⟩
        go_wp2_with fail
        have CLb := lfLess wr base v l' (2 * i + 1) i _ _ hH.row (atE_get hl1) (atE_get hl0)
        rw [hq1] at CLb
        refine CLb.mono ?_
        rintro e w2 ⟨rfl, hf2⟩
        have hB2 := hf2.at hH.blk (by simp)
        have hr2 := hf2.row hH.row (by simp)
        have c2 : w2.cell? ⟨p, 0, none⟩ = some v := hB2.cell 0
        have hmS2 := hmS w2 c2
        clear CLb
        cases hA : ahead (atE l' (2 * i + 1)) (atE l' i) with
        | false =>
          have hdn : Heap leG (atE l') n := HU.out.done (fun c hc hcn hcp => leG_trans _ _ _ ⟨hg'.at hl0, hg'.at hl1, hA⟩ (hsib c hc hcn hcp))
          have hfx := (hf).trans hf2.nil
          clear hmS hmS2 hmL
          go_wp2_with fail
          go_ret
          first
            | exact ⟨_, l', rfl, ⟨hB2, hr2, hH.le, hH.small⟩, hP, HN.out, hdn, hfx⟩
            | exact ⟨⟨_, rfl⟩, l', ⟨hB2, hr2, hH.le, hH.small⟩, hP, HN.out, hdn, hfx⟩
        | true =>
          have CS := lfSwap w2 base v l' i (2 * i + 1) _ _ hr2 (atE_get hl0) (atE_get hl1)
          rw [hq1] at CS
          have hst := HU.out.step (j := 2 * i + 1) (by omega) (by omega) (by omega) ⟨hg'.at hl1, hg'.at hl0, leE_total (hg'.at hl1) (hg'.at hl0) hA⟩ hsib
          rw [← atE_swap hl0 hl1] at hst
          have hlen2 : ((l'.set i (atE l' (2 * i + 1))).set (2 * i + 1) (atE l' i)).length = l'.length := by simp
          have hsame : atE ((l'.set i (atE l' (2 * i + 1))).set (2 * i + 1) (atE l' i)) n = atE l n := by
            rw [atE_swap hl0 hl1, ← HN.out]
            unfold swapF
            rw [if_neg (by omega), if_neg (by omega)]
          have hfx := (hf).trans hf2.nil
          clear hmS hmL
          go_wp2_with fail
          refine CS.mono ?_
          rintro e w3 ⟨rfl, hr3, hf3⟩
          go_wp2_with fail
          refine ⟨⟨2 * i + 1, _, by rw [hq1], by omega, ⟨hf3.at hB2 (not_own hB2 (by decide) hr2), by rw [hlen2]; exact hr3, hH.le, by rw [hlen2]; exact hH.small⟩, (perm_swap (atE_get hl0) (atE_get hl1)).trans hP, hst, hsame, hfx.trans hf3⟩, ?_⟩
          simp [intOf]
          omega
end Go.Proofs.Ytmeplfpnpogalaa.kp
