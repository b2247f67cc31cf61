/-
  right: a store tells what the caller knows.
-/
import Derived.Test.YtmeplfpnpogalaaKpI2
namespace Go.Proofs.Ytmeplfpnpogalaa.kp
open Go.RowKit dk

theorem liveN_eq (l : List Ent) : liveN l = (liveK l).length := by
  unfold liveN liveK
  rw [List.length_map, List.countP_eq_length_filter]
theorem entsF_take {o : List Kn} {i : Nat} {k : Kn} (hk : o[i]? = some k) : entsF 0 (o.take (i + 1)) = entsF 0 (o.take i) ++ entOf i k := by
  have hi : i < o.length := (List.getElem?_eq_some_iff.1 hk).1
  rw [List.take_add_one, hk, entsF_append]
  simp [entsF, Nat.min_eq_left (Nat.le_of_lt hi)]
theorem deadN_append (a b : List Ent) : deadN (a ++ b) = deadN a + deadN b := by simp [deadN]
theorem cmpEmptyD : (List.range 40).all (fun i => decide (0 < cmpB (keyB i) ByteArray.empty)) = true := by kernel_rfl
theorem cmpEmpty {i : Nat} (hi : i < 40) : 0 < cmpB (keyB i) ByteArray.empty := of_decide_eq_true (List.all_eq_true.1 cmpEmptyD i (List.mem_range.2 hi))
section
variable {o : List Kn} (h40 : o.length = 40)
include h40
theorem noneBelow : ∀ e ∈ entsF 0 o, ¬ cmpB e.key ByteArray.empty < 0 := by
  intro e he hlt
  obtain ⟨t, _, h2, h3⟩ := entsF_mem he
  have := cmpEmpty (i := t) (by omega)
  rw [h3] at hlt
  omega
theorem monoE : Mono (entsF 0 o) ByteArray.empty := mono_split (A := []) (by simp) (noneBelow h40)
theorem keysE : keysL (entsF 0 o) ByteArray.empty 100 = liveK (entsF 0 o) := by
  have hp : pos (entsF 0 o) ByteArray.empty = 0 := pos_split (A := []) (by simp) (noneBelow h40)
  have hh : has (entsF 0 o) ByteArray.empty = false := by
    unfold has
    rw [hp]
    cases he : (entsF 0 o)[0]? with
    | none => rfl
    | some e =>
      obtain ⟨t, _, h2, h3⟩ := entsF_mem (List.mem_of_getElem? he)
      have := cmpEmpty (i := t) (by omega)
      simp only [decide_eq_false_iff_not]
      rw [h3]
      omega
  unfold keysL fromL
  rw [hp, hh]
  have h1 := liveK_le (entsF 0 o)
  have h2 := entsF_length 0 o
  simp only [Bool.false_eq_true, if_false, Nat.add_zero, List.drop_zero]
  exact List.take_of_length_le (by simp; omega)
end
theorem pick_small {i : Nat} (hi : i < 40) : pickI (i : Int) 40 = i := by
  unfold pickI
  rw [if_neg (by omega)]
  simp
  omega

theorem own_le {w : World} {base : Nat} {e : TypeId} {size : Nat} {v : Value} {n : Nat} {xs : List Value} (h : w.ownsRow base e size v n xs) : ∀ k ∈ own v, base ≤ k := by
  intro k hk
  unfold own at hk
  cases ho : v.ownBlock with
  | none => rw [ho] at hk; simp at hk
  | some g => rw [ho] at hk; simp at hk; subst hk; exact (h.lt _ ho).1
theorem not_own {w : World} {b : Nat} {cs : Array Value} {t e : TypeId} {base size : Nat} {v : Value} {n : Nat} {xs : List Value} (hA : At w b cs t) (ht : t ≠ e) (hr : w.ownsRow base e size v n xs) : b ∉ own v := by
  intro hm
  unfold own at hm
  cases ho : v.ownBlock with
  | none => rw [ho] at hm; simp at hm
  | some g => rw [ho] at hm; simp at hm; subst hm; exact row_ne hA ht hr ho
/-- a list of strings has grown; the shop stands -/
theorem ShopAt.fr_own {w w' : World} {base hb x d lb : Nat} {v : Value} {o : List Kn} {u : Value} {n base2 : Nat} {xs : List Value} (h : ShopAt w base hb x d lb v o) (hf : Fr (own u) w w') (hr : w.ownsRow base2 9 1 u n xs) : ShopAt w' base hb x d lb v o := by
  refine ⟨hf.at h.shop (not_own h.shop (by decide) hr), hf.at h.list (not_own h.list (by decide) hr), h.len, h.ok, ⟨hf.at h.store.blk (not_own h.store.blk (by decide) hr), hf.row h.store.row (fun g hg hm => ?_), h.store.le⟩, hf.at h.disk (not_own h.disk (by decide) hr), h.leh, h.lel⟩
  rcases h.store.row.2 with ⟨e, _⟩ | ⟨g', cap, cur, e, _, hg', _⟩
  · rw [e] at hg; cases hg
  · rw [e] at hg
    cases hg
    exact not_own (show At w g' cur 145 from hg') (by decide) hr hm

set_option maxRecDepth 100000 in
set_option maxHeartbeats 8000000 in
theorem shopRight (w : World) (base hb x d lb : Nat) (v : Value) (o : List Kn) (h : ShopAt w base hb x d lb v o) :
    Calls Try.prog 15 #[.pointer (some ⟨hb, 0, none⟩), .pointer (some ⟨x, 0, none⟩)] w fun e w' => e = .returned (.bool true) ∧ ShopAt w' base hb x d lb v o ∧ Touch base w w' := by
  have hlen := h.len
  have hbw : base ≤ w.heap.size := Nat.le_trans h.leh (Nat.le_of_lt h.shop.lt)
  have g2 : w.cell? ⟨hb, 2, none⟩ = some (.slice (some ⟨lb, 0, none⟩) 40 40) := h.shop.cell 2
  go_enter Try.func15, Try.ntmps15
  go_wp2_with fail
  go_loopw [5, 6, 7] (fun u n y wr => ∃ i : Nat, n = .int .i64 (deadN (entsF 0 (o.take i))) ∧ y = .int .i64 i ∧ i ≤ 40 ∧ wr.ownsRow w.heap.size 9 1 u (liveK (entsF 0 (o.take i))).length (strsV (liveK (entsF 0 (o.take i)))) ∧ ShopAt wr base hb x d lb v o ∧ Touch base w wr ∧ w.heap.size ≤ wr.heap.size) (fun _ _ y _ => 40 - (intOf y).toNat)
  case atStart => exact ⟨0, rfl, rfl, by decide, by simpa [liveK, strsV, entsF] using World.ownsRow_nil _ _ _ _, h, Touch.of (Fr.refl [] w) (by simp), Nat.le_refl _⟩
  case round =>
    obtain ⟨i, rfl, rfl, hi, hown, hS, hT, hsz⟩ := hrel
    have g2r : wr.cell? ⟨hb, 2, none⟩ = some (.slice (some ⟨lb, 0, none⟩) 40 40) := hS.shop.cell 2
    have hle1 := liveK_le (entsF 0 (o.take i))
    have hle2 := entsF_length 0 (o.take i)
    rw [List.length_take] at hle2
    have hdl := deadN_le (entsF 0 (o.take i))
    by_cases hlt : i < 40
    · obtain ⟨k, hk⟩ : ∃ k, o[i]? = some k := ⟨o[i], List.getElem?_eq_getElem (by omega)⟩
      have hp0 : (0 : Int) ≤ (i : Int) := by omega
      have hp1 : (i : Int) < 40 := by omega
      have HE : Hid (entsF 0 (o.take (i + 1)) = entsF 0 (o.take i) ++ entOf i k) := entsF_take hk
      go_wp2_with fail
      have CK := keyOf wr (i : Int) (by omega) (by omega)
      rw [pick_small hlt] at CK
      refine CK.mono ?_
      rintro e w1 ⟨rfl, hf1⟩
      have hS1 := hS.fr hf1
      have hown1 := hf1.row hown (by simp)
      go_wp2_with fail
      have hel := entsF_length 0 o
      refine (stGet w1 base x v (entsF 0 o) (keyB i) hS1.store (keyOk hlt) (monoK hk hlen) (by omega)).mono ?_
      rintro e w2 ⟨rfl, hSt2, hf2⟩
      have hS2 := hS1.store_set hf2 (fun y hy => by simp at hy; exact .inl hy) hSt2
      have hown2 := hf2.row hown1 (fun g hg => by simp; intro e; subst e; exact row_ne hS1.store.blk (by decide) hown1 hg)
      have hT2 : Touch base w w2 := (hT.trans (Touch.of hf1 (by simp))).trans (Touch.of hf2 (fun y hy => by simp at hy; subst hy; exact hS1.store.le))
      have hsz2 : w.heap.size ≤ w2.heap.size := Nat.le_trans hsz (Nat.le_trans hf1.size hf2.size)
      have g2s : w2.cell? ⟨hb, 2, none⟩ = some (.slice (some ⟨lb, 0, none⟩) 40 40) := hS2.shop.cell 2
      obtain ⟨d0, d1⟩ := knAt hS2.list hk
      have hst := (hS2.ok k (List.mem_of_getElem? hk)).st
      clear CK hS1 hown1 hown hS hT g2r hf1 hf2 hSt2
      obtain ⟨ks, kb⟩ := k
      dsimp only at hst d0 d1
      generalize hQ : liveK (entsF 0 (o.take i)) = Q at *
      generalize hD : deadN (entsF 0 (o.take i)) = D at *
      have HL : Hid (liveK (entsF 0 (o.take (i + 1))) = Q ++ liveK (entOf i ⟨ks, kb⟩)) := by show _ = _; rw [HE.out, liveK_append, hQ]
      have HD : Hid (deadN (entsF 0 (o.take (i + 1))) = D + deadN (entOf i ⟨ks, kb⟩)) := by show _ = _; rw [HE.out, deadN_append, hD]
      clear HE hQ hD
      obtain ⟨aO, capO, rfl, hleO, hmxO, _⟩ := rowS hown2
      rcases hst with rfl | rfl | rfl
      · rw [getE0 hk hlen rfl]
        have HL2 : Hid (liveK (entsF 0 (o.take (i + 1))) = Q) := by show _ = _; rw [HL.out]; simp [entOf, liveK]
        have HD2 : Hid (deadN (entsF 0 (o.take (i + 1))) = D) := by show _ = _; rw [HD.out]; simp [entOf, deadN]
        clear HL HD
        have hem := emptyL
        go_wp2_with fail
        exact ⟨⟨i + 1, by rw [HD2.out], by go_num, hlt, by rw [HL2.out]; exact hown2, hS2, hT2, hsz2⟩, by simp [intOf]; omega⟩
      · rw [getE1 hk hlen rfl]
        have HL2 : Hid (liveK (entsF 0 (o.take (i + 1))) = Q ++ [keyB i]) := by show _ = _; rw [HL.out]; simp [entOf, liveK]
        have HD2 : Hid (deadN (entsF 0 (o.take (i + 1))) = D) := by show _ = _; rw [HD.out]; simp [entOf, deadN]
        clear HL HD
        go_wp2_with (at_builtin; refine wpList_appS _ rfl (.tmp 57) (.tmp 59) 29 rfl w.heap.size 9 Try.underlying29 Try.infoStr (.slice aO Q.length capO) Q rfl (hown2.alloc _) w2.heap.size (keyB i) 9 rfl (at_alloc _ _ _) (by omega) (by simp; omega) ?_; intro g3 cap3 w3 hown3 hgrow3 hat3; have hf3 : Fr (own (.slice aO Q.length capO)) (w2.alloc (.cells #[.string (keyB i)] 9)) w3 := Fr.ofGrown hgrow3; have hSA := hS2.fr ((Fr.refl [] w2).alloc (.cells #[.string (keyB i)] 9)); have hS3 : ShopAt w3 base hb x d lb v o := hSA.fr_own hf3 (hown2.alloc _); have g2t : w3.cell? ⟨hb, 2, none⟩ = some (.slice (some ⟨lb, 0, none⟩) 40 40) := hS3.shop.cell 2; obtain ⟨d0, d1⟩ := knAt hS3.list hk)
        have hT3 : Touch base w w3 := (hT2.trans (Touch.of ((Fr.refl [] w2).alloc _) (by simp))).trans (Touch.of hf3 (fun y hy => Nat.le_trans hbw (own_le hown2 y hy)))
        have hsz3 : w.heap.size ≤ w3.heap.size := by have h1 := hf3.size; simp at h1; omega
        exact ⟨⟨i + 1, by rw [HD2.out], by go_num, hlt, by rw [HL2.out]; exact hown3, hS3, hT3, hsz3⟩, by simp [intOf]; omega⟩
      · rw [getE2 hk hlen rfl]
        have HL2 : Hid (liveK (entsF 0 (o.take (i + 1))) = Q) := by show _ = _; rw [HL.out]; simp [entOf, liveK]
        have HD2 : Hid (deadN (entsF 0 (o.take (i + 1))) = D + 1) := by show _ = _; rw [HD.out]; simp [entOf, deadN]
        clear HL HD
        have hem := emptyL
        go_wp2_with fail
        exact ⟨⟨i + 1, by rw [HD2.out]; go_num, by go_num, hlt, by rw [HL2.out]; exact hown2, hS2, hT2, hsz2⟩, by simp [intOf]; omega⟩
    · obtain rfl : i = 40 := by omega
      have hta : o.take 40 = o := by rw [← hlen, List.take_length]
      rw [hta] at hown hle1 hle2 hdl ⊢
      have hel := entsF_length 0 o
      have hu := usedK_le o hS.ok
      rw [hlen] at hu
      have HUS := usedK_eq 0 o hS.ok
      obtain ⟨aO, capO, rfl, hleO, hmxO, hcO⟩ := rowS hown
      go_wp2_with fail
      refine (stKeys wr base x v (entsF 0 o) ByteArray.empty 100 hS.store (monoE hlen) (by omega)).mono ?_
      rintro e w1 ⟨v1, rfl, hown1, hSt1, hf1⟩
      rw [keysE hlen] at hown1
      have hS1 := hS.store_set hf1 (fun y hy => by simp at hy; exact .inl hy) hSt1
      have hownL1 := hf1.row hown (fun g hg => by simp; intro e; subst e; exact row_ne hS.store.blk (by decide) hown hg)
      have hT1 : Touch base w w1 := hT.trans (Touch.of hf1 (fun y hy => by simp at hy; subst hy; exact hS.store.le))
      obtain ⟨a1, cap1, rfl, hle3, hmx3, _⟩ := rowS hown1
      clear hS hown hT hSt1 hf1 hcO
      go_wp2_with fail
      refine (stStats w1 base x v (entsF 0 o) hS1.store (by omega) (by rw [HUS]; omega)).mono ?_
      rintro e w2 ⟨rfl, hSt2, hf2⟩
      have hS2 := hS1.store_set hf2 (fun y hy => by simp at hy; exact .inl hy) hSt2
      have hownL2 := hf2.row hownL1 (fun g hg => by simp; intro e; subst e; exact row_ne hS1.store.blk (by decide) hownL1 hg)
      have hown2 := hf2.row hown1 (fun g hg => by simp; intro e; subst e; exact row_ne hS1.store.blk (by decide) hown1 hg)
      have hT2 : Touch base w w2 := hT1.trans (Touch.of hf2 (fun y hy => by simp at hy; subst hy; exact hS1.store.le))
      clear hS1 hown1 hownL1 hT1 hSt2 hf2
      have hsv : statsV (entsF 0 o) = #[.int .i64 ((liveK (entsF 0 o)).length : Nat), .int .i64 (deadN (entsF 0 o)), .int .i64 (usedK o)] := by
        unfold statsV
        rw [liveN_eq, HUS]
      rw [hsv]
      clear hsv HUS
      generalize liveK (entsF 0 o) = Q at *
      generalize deadN (entsF 0 o) = D at *
      go_wp2_with fail
      have hA3 := at_alloc w2 #[.int .i64 (Q.length : Nat), .int .i64 D, .int .i64 (usedK o)] 65
      have hfa := (Fr.refl [] w2).alloc (.cells #[.int .i64 (Q.length : Nat), .int .i64 D, .int .i64 (usedK o)] 65)
      have hS3 := hS2.fr hfa
      have hown3 := hfa.row hown2 (by simp)
      have hownL3 := hfa.row hownL2 (by simp)
      have hT3 := hT2.trans (Touch.of hfa (by simp))
      generalize w2.alloc (.cells #[.int .i64 (Q.length : Nat), .int .i64 D, .int .i64 (usedK o)] 65) = W3 at *
      have z0 : W3.cell? ⟨w2.heap.size, 0, none⟩ = some (.int .i64 (Q.length : Nat)) := hA3.cell 0
      have z1 : W3.cell? ⟨w2.heap.size, 1, none⟩ = some (.int .i64 D) := hA3.cell 1
      have z2 : W3.cell? ⟨w2.heap.size, 2, none⟩ = some (.int .i64 (usedK o)) := hA3.cell 2
      have CU : ∀ W, Fr [] W3 W → Calls Try.prog 37 #[.pointer (some ⟨hb, 0, none⟩)] W fun e w' => e = .returned (.int .i64 (usedK o)) ∧ w' = W := fun W hW => shopUsed W hb lb o ((hS3.fr hW).shop.cell 2) (hS3.fr hW).list hlen hS3.ok
      clear hA3 hfa hS2 hown2 hownL2 hT2
      go_region_held3 (fun w' => w'.cell? ⟨w2.heap.size, 0, none⟩ = some (.int .i64 (Q.length : Nat)) ∧ w'.cell? ⟨w2.heap.size, 1, none⟩ = some (.int .i64 D) ∧ w'.cell? ⟨w2.heap.size, 2, none⟩ = some (.int .i64 (usedK o))) (go_keep) ((go_at_call 37; refine (CU _ ((Fr.refl [] W3).drew)).mono ?_; rintro e w4 ⟨rfl, rfl⟩))
      have hfd : Fr [] W3 W3.drew := (Fr.refl [] W3).drew
      have hS4 := hS3.fr hfd
      have hown4 := hfd.row hown3 (by simp)
      have hownL4 := hfd.row hownL3 (by simp)
      have hT4 := hT3.trans (Touch.of hfd (by simp))
      generalize W3.drew = W4 at *
      have hQ40 : Q.length ≤ 40 := by omega
      clear z0 z1 z2 CU hS3 hown3 hownL3 hT3 hfd hu hdl hel hle1 hle2 g2r g2
      have HR : Hid (∀ w', Fr [] W4 w' → ShopAt w' base hb x d lb v o ∧ Touch base w w') := fun w' hw => ⟨hS4.fr hw, hT4.trans (Touch.of hw (by simp))⟩
      clear hS4 hT4
      rename_i Kt ht Kc hc hH
      refine hc _ _ ?_
      refine wp_cond_false (by simp [Act.eval]) ?_
      refine wp_skip ?_
      refine ht _ _ ?_
      refine rightTail W4 Q a1 aO cap1 capO _ _ hown4 hownL4 hQ40 _ ?_
      intro w' hw
      exact ⟨rfl, (HR.out w' hw).1, (HR.out w' hw).2⟩
end Go.Proofs.Ytmeplfpnpogalaa.kp
