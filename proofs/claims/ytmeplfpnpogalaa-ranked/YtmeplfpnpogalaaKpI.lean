/-
  The other steps of a script.
-/
import Derived.Test.YtmeplfpnpogalaaKpH
namespace Go.Proofs.Ytmeplfpnpogalaa.kp
open Go.RowKit dk

set_option maxRecDepth 100000 in
set_option maxHeartbeats 8000000 in
theorem step2 (w : World) (base hb x d lb : Nat) (v : Value) (o : List Kn) (a b : Int) (S : ByteArray) (h : ShopAt w base hb x d lb v o) (ha : I64 a) :
    Calls Try.prog 14 #[.pointer (some ⟨hb, 0, none⟩), .agg #[.int .i64 2, .int .i64 a, .int .i64 b, .string S]] w fun e w' => ∃ v' o', e = .returned (.bool true) ∧ ShopAt w' base hb x d lb v' o' ∧ Touch base w w' := by
  have hj := pickI_lt a 40 (by decide)
  have hlen := h.len
  obtain ⟨k, hk⟩ : ∃ k, o[pickI a 40]? = some k := ⟨o[pickI a 40], List.getElem?_eq_getElem (by omega)⟩
  have hblt := h.shop.lt
  have hllt := h.list.lt
  have hP := fun W => pickK W a 40 (by decide) (by decide) ha.1 ha.2
  have hK := keyOf (w.alloc (.cells #[.int .i64 2, .int .i64 a, .int .i64 b, .string S] 53)) a ha.1 ha.2
  generalize pickI a 40 = j at *
  have hp0 : (0 : Int) ≤ (j : Int) := by omega
  have hp1 : (j : Int) < 40 := by omega
  go_enter Try.func14, Try.ntmps14
  go_wp2_with fail
  refine hK.mono ?_
  rintro e w1 ⟨rfl, hf1⟩
  have hB1 := hf1.at (at_alloc w #[.int .i64 2, .int .i64 a, .int .i64 b, .string S] 53) (by simp)
  have h1 := (h.fr ((Fr.refl [] w).alloc _)).fr hf1
  have hF1 := ((Fr.refl [] w).alloc (.cells #[.int .i64 2, .int .i64 a, .int .i64 b, .string S] 53)).trans hf1
  have c0 : w1.cell? ⟨w.heap.size, 0, none⟩ = some (.int .i64 2) := hB1.cell 0
  have c1 : w1.cell? ⟨w.heap.size, 1, none⟩ = some (.int .i64 a) := hB1.cell 1
  have c2 : w1.cell? ⟨w.heap.size, 2, none⟩ = some (.int .i64 b) := hB1.cell 2
  have c3 : w1.cell? ⟨w.heap.size, 3, none⟩ = some (.string S) := hB1.cell 3
  have g0 : w1.cell? ⟨hb, 0, none⟩ = some (.pointer (some ⟨x, 0, none⟩)) := h1.shop.cell 0
  have g2 : w1.cell? ⟨hb, 2, none⟩ = some (.slice (some ⟨lb, 0, none⟩) 40 40) := h1.shop.cell 2
  clear hf1 h
  go_wp2_with fail
  go_region_held3 (fun w' => w'.cell? ⟨hb, 2, none⟩ = some (.slice (some ⟨lb, 0, none⟩) 40 40) ∧ w'.cell? ⟨w.heap.size, 1, none⟩ = some (.int .i64 a)) (go_keep) ((go_at_call 17; refine (hP _).mono ?_; rintro e w2 ⟨rfl, rfl⟩))
  have hf1d : Fr [] w1 w1.drew := (Fr.refl [] w1).drew
  have h2 := h1.fr hf1d
  have hB2 := hf1d.at hB1 (by simp)
  have hF2 := hF1.trans hf1d
  generalize w1.drew = W at *
  clear h1 hB1 hF1 hf1d c0 c1 c2 c3 g0 g2
  have c0 : W.cell? ⟨w.heap.size, 0, none⟩ = some (.int .i64 2) := hB2.cell 0
  have c1 : W.cell? ⟨w.heap.size, 1, none⟩ = some (.int .i64 a) := hB2.cell 1
  have c2 : W.cell? ⟨w.heap.size, 2, none⟩ = some (.int .i64 b) := hB2.cell 2
  have c3 : W.cell? ⟨w.heap.size, 3, none⟩ = some (.string S) := hB2.cell 3
  have g0 : W.cell? ⟨hb, 0, none⟩ = some (.pointer (some ⟨x, 0, none⟩)) := h2.shop.cell 0
  have hel := entsF_length 0 o
  go_wp2_with fail
  have C5 := stDelete W base x v (entsF 0 o) (keyB j) h2.store (keyOk hj) (monoK hk h2.len) (by omega)
  refine C5.mono ?_
  rintro e W5 ⟨rfl, hS5, hf5⟩
  obtain ⟨n1, n2, n3⟩ := h2.apart mem_own
  have hL5 := hf5.at h2.list n2
  have d0 := (knAt hL5 hk).1
  have d1 := (knAt hL5 hk).2
  have hz5 := hL5.frozen
  have hFt : Touch base w W5 := (Touch.of hF2 (by simp)).trans (Touch.of hf5 h2.store.own_le)
  have hst := (h2.ok k (List.mem_of_getElem? hk)).st
  clear g0 C5 n1 n2 n3 hL5 hP hK hB2 hF2 c0 c1 c2 c3
  obtain ⟨ks, kb⟩ := k
  dsimp only at hst d0 d1
  rcases hst with rfl | rfl | rfl
  · have hg := getE0 hk hlen rfl
    have e2 : delL (entsF 0 o) (keyB j) = entsF 0 o := by unfold delL; rw [hg]; rfl
    rw [e2] at hS5
    rw [hg]
    clear e2 hg
    go_wp2_with fail
    go_ret
    exact ⟨v, o, rfl, h2.store_set hf5 mem_own hS5, hFt⟩
  · have hg := getE1 hk hlen rfl
    have e2 : delL (entsF 0 o) (keyB j) = entsF 0 (o.set j ⟨2, ByteArray.empty⟩) := by
      unfold delL
      rw [hg, getK hk hlen (by simp)]
      exact setK hk hlen rfl
    rw [e2] at hS5
    rw [hg]
    clear e2 hg
    go_wp2_with fail
    go_ret
    exact ⟨v, _, rfl, h2.noted hf5 mem_own hk ⟨.inr (.inr rfl), by decide, fun _ => rfl⟩ hS5, hFt.trans (Touch.of (((Fr.refl [lb] W5).setCell _ (.inl (by simp)) _).setCell _ (.inl (by simp)) _) (fun y hy => by simp at hy; subst hy; exact h2.lel))⟩
  · have hg := getE2 hk hlen rfl
    have e2 : delL (entsF 0 o) (keyB j) = entsF 0 o := by unfold delL; rw [hg]; rfl
    rw [e2] at hS5
    rw [hg]
    clear e2 hg
    go_wp2_with fail
    go_ret
    exact ⟨v, o, rfl, h2.store_set hf5 mem_own hS5, hFt⟩

set_option maxRecDepth 100000 in
set_option maxHeartbeats 8000000 in
theorem step3 (w : World) (base hb x d lb : Nat) (v : Value) (o : List Kn) (a b : Int) (S : ByteArray) (h : ShopAt w base hb x d lb v o) (ha : I64 a) :
    Calls Try.prog 14 #[.pointer (some ⟨hb, 0, none⟩), .agg #[.int .i64 3, .int .i64 a, .int .i64 b, .string S]] w fun e w' => ∃ v' o', e = .returned (.bool true) ∧ ShopAt w' base hb x d lb v' o' ∧ Touch base w w' := by
  have hj := pickI_lt a 40 (by decide)
  have hlen := h.len
  obtain ⟨k, hk⟩ : ∃ k, o[pickI a 40]? = some k := ⟨o[pickI a 40], List.getElem?_eq_getElem (by omega)⟩
  have hblt := h.shop.lt
  have hllt := h.list.lt
  have hP := fun W => pickK W a 40 (by decide) (by decide) ha.1 ha.2
  have hK := keyOf (w.alloc (.cells #[.int .i64 3, .int .i64 a, .int .i64 b, .string S] 53)) a ha.1 ha.2
  generalize pickI a 40 = j at *
  have hp0 : (0 : Int) ≤ (j : Int) := by omega
  have hp1 : (j : Int) < 40 := by omega
  go_enter Try.func14, Try.ntmps14
  go_wp2_with fail
  refine hK.mono ?_
  rintro e w1 ⟨rfl, hf1⟩
  have hB1 := hf1.at (at_alloc w #[.int .i64 3, .int .i64 a, .int .i64 b, .string S] 53) (by simp)
  have h1 := (h.fr ((Fr.refl [] w).alloc _)).fr hf1
  have hF1 := ((Fr.refl [] w).alloc (.cells #[.int .i64 3, .int .i64 a, .int .i64 b, .string S] 53)).trans hf1
  have c0 : w1.cell? ⟨w.heap.size, 0, none⟩ = some (.int .i64 3) := hB1.cell 0
  have c1 : w1.cell? ⟨w.heap.size, 1, none⟩ = some (.int .i64 a) := hB1.cell 1
  have c2 : w1.cell? ⟨w.heap.size, 2, none⟩ = some (.int .i64 b) := hB1.cell 2
  have c3 : w1.cell? ⟨w.heap.size, 3, none⟩ = some (.string S) := hB1.cell 3
  have g0 : w1.cell? ⟨hb, 0, none⟩ = some (.pointer (some ⟨x, 0, none⟩)) := h1.shop.cell 0
  have g2 : w1.cell? ⟨hb, 2, none⟩ = some (.slice (some ⟨lb, 0, none⟩) 40 40) := h1.shop.cell 2
  clear hf1 h
  go_wp2_with fail
  go_region_held3 (fun w' => w'.cell? ⟨hb, 2, none⟩ = some (.slice (some ⟨lb, 0, none⟩) 40 40) ∧ w'.cell? ⟨w.heap.size, 1, none⟩ = some (.int .i64 a)) (go_keep) ((go_at_call 17; refine (hP _).mono ?_; rintro e w2 ⟨rfl, rfl⟩))
  have hf1d : Fr [] w1 w1.drew := (Fr.refl [] w1).drew
  have h2 := h1.fr hf1d
  have hB2 := hf1d.at hB1 (by simp)
  have hF2 := hF1.trans hf1d
  generalize w1.drew = W at *
  clear h1 hB1 hF1 hf1d c0 c1 c2 c3 g0 g2
  have c0 : W.cell? ⟨w.heap.size, 0, none⟩ = some (.int .i64 3) := hB2.cell 0
  have c1 : W.cell? ⟨w.heap.size, 1, none⟩ = some (.int .i64 a) := hB2.cell 1
  have c2 : W.cell? ⟨w.heap.size, 2, none⟩ = some (.int .i64 b) := hB2.cell 2
  have c3 : W.cell? ⟨w.heap.size, 3, none⟩ = some (.string S) := hB2.cell 3
  have g0 : W.cell? ⟨hb, 0, none⟩ = some (.pointer (some ⟨x, 0, none⟩)) := h2.shop.cell 0
  have g1 : W.cell? ⟨hb, 1, none⟩ = some (.pointer (some ⟨d, 0, none⟩)) := h2.shop.cell 1
  go_wp2_with fail
  refine (stSeal W x).mono ?_
  rintro e W3 ⟨rfl, rfl⟩
  go_wp2_with fail
  have C4 := dsk_bytes W3 base d (.slice none 0 0) (.slice none 0 0) (.slice none 0 0) noDisk ⟨h2.disk, World.ownsRow_nil _ _ _ _, World.ownsRow_nil _ _ _ _, World.ownsRow_nil _ _ _ _⟩ (by decide) (by decide)
  refine C4.mono ?_
  rintro e W4 ⟨rfl, hf4⟩
  have h4 := h2.fr hf4
  have hF4 := hF2.trans hf4
  have e0 : (bytesL noDisk.now : Int) = 0 := rfl
  rw [e0]
  clear hP hK hB2 c0 c1 c2 c3 C4
  go_wp2_with fail
  refine (shopUsed W4 hb lb o (h4.shop.cell 2) h4.list h4.len h4.ok).mono ?_
  rintro e W5 ⟨rfl, rfl⟩
  have hu := usedK_le o h4.ok
  rw [hlen] at hu
  go_wp2_with fail
  go_ret
  exact ⟨v, o, by first | rfl | (congr 2; simp; omega), h4, Touch.of hF4 (by simp)⟩

set_option maxRecDepth 100000 in
set_option maxHeartbeats 8000000 in
theorem step4 (w : World) (base hb x d lb : Nat) (v : Value) (o : List Kn) (a b : Int) (S : ByteArray) (h : ShopAt w base hb x d lb v o) (ha : I64 a) :
    Calls Try.prog 14 #[.pointer (some ⟨hb, 0, none⟩), .agg #[.int .i64 4, .int .i64 a, .int .i64 b, .string S]] w fun e w' => ∃ v' o', e = .returned (.bool true) ∧ ShopAt w' base hb x d lb v' o' ∧ Touch base w w' := by
  have hj := pickI_lt a 40 (by decide)
  have hlen := h.len
  obtain ⟨k, hk⟩ : ∃ k, o[pickI a 40]? = some k := ⟨o[pickI a 40], List.getElem?_eq_getElem (by omega)⟩
  have hblt := h.shop.lt
  have hllt := h.list.lt
  have hP := fun W => pickK W a 40 (by decide) (by decide) ha.1 ha.2
  have hK := keyOf (w.alloc (.cells #[.int .i64 4, .int .i64 a, .int .i64 b, .string S] 53)) a ha.1 ha.2
  generalize pickI a 40 = j at *
  have hp0 : (0 : Int) ≤ (j : Int) := by omega
  have hp1 : (j : Int) < 40 := by omega
  go_enter Try.func14, Try.ntmps14
  go_wp2_with fail
  refine hK.mono ?_
  rintro e w1 ⟨rfl, hf1⟩
  have hB1 := hf1.at (at_alloc w #[.int .i64 4, .int .i64 a, .int .i64 b, .string S] 53) (by simp)
  have h1 := (h.fr ((Fr.refl [] w).alloc _)).fr hf1
  have hF1 := ((Fr.refl [] w).alloc (.cells #[.int .i64 4, .int .i64 a, .int .i64 b, .string S] 53)).trans hf1
  have c0 : w1.cell? ⟨w.heap.size, 0, none⟩ = some (.int .i64 4) := hB1.cell 0
  have c1 : w1.cell? ⟨w.heap.size, 1, none⟩ = some (.int .i64 a) := hB1.cell 1
  have c2 : w1.cell? ⟨w.heap.size, 2, none⟩ = some (.int .i64 b) := hB1.cell 2
  have c3 : w1.cell? ⟨w.heap.size, 3, none⟩ = some (.string S) := hB1.cell 3
  have g0 : w1.cell? ⟨hb, 0, none⟩ = some (.pointer (some ⟨x, 0, none⟩)) := h1.shop.cell 0
  have g2 : w1.cell? ⟨hb, 2, none⟩ = some (.slice (some ⟨lb, 0, none⟩) 40 40) := h1.shop.cell 2
  clear hf1 h
  go_wp2_with fail
  go_region_held3 (fun w' => w'.cell? ⟨hb, 2, none⟩ = some (.slice (some ⟨lb, 0, none⟩) 40 40) ∧ w'.cell? ⟨w.heap.size, 1, none⟩ = some (.int .i64 a)) (go_keep) ((go_at_call 17; refine (hP _).mono ?_; rintro e w2 ⟨rfl, rfl⟩))
  have hf1d : Fr [] w1 w1.drew := (Fr.refl [] w1).drew
  have h2 := h1.fr hf1d
  have hB2 := hf1d.at hB1 (by simp)
  have hF2 := hF1.trans hf1d
  generalize w1.drew = W at *
  clear h1 hB1 hF1 hf1d c0 c1 c2 c3 g0 g2
  have c0 : W.cell? ⟨w.heap.size, 0, none⟩ = some (.int .i64 4) := hB2.cell 0
  have c1 : W.cell? ⟨w.heap.size, 1, none⟩ = some (.int .i64 a) := hB2.cell 1
  have c2 : W.cell? ⟨w.heap.size, 2, none⟩ = some (.int .i64 b) := hB2.cell 2
  have c3 : W.cell? ⟨w.heap.size, 3, none⟩ = some (.string S) := hB2.cell 3
  have g0 : W.cell? ⟨hb, 0, none⟩ = some (.pointer (some ⟨x, 0, none⟩)) := h2.shop.cell 0
  have g1 : W.cell? ⟨hb, 1, none⟩ = some (.pointer (some ⟨d, 0, none⟩)) := h2.shop.cell 1
  go_wp2_with fail
  refine (stScrub W x).mono ?_
  rintro e W3 ⟨rfl, rfl⟩
  go_wp2_with fail
  have C4 := dsk_harmed W3 base d (.slice none 0 0) (.slice none 0 0) (.slice none 0 0) noDisk ⟨h2.disk, World.ownsRow_nil _ _ _ _, World.ownsRow_nil _ _ _ _, World.ownsRow_nil _ _ _ _⟩ (by decide)
  refine C4.mono ?_
  rintro e W4 ⟨v4, rfl, hown4, hf4⟩
  have h4 := h2.fr hf4
  have hF4 := hF2.trans hf4
  have e0 : harmedTo (badDev noDisk.now) 9 = [] := rfl
  rw [e0] at hown4
  obtain ⟨a4, cap4, rfl, _, _, _⟩ := row1 (l := []) hown4
  clear hP hK hB2 c0 c1 c2 c3 C4 hown4
  go_wp2_with fail
  go_ret
  exact ⟨v, o, rfl, h4, Touch.of hF4 (by simp)⟩

set_option maxRecDepth 100000 in
set_option maxHeartbeats 8000000 in
theorem step0 (w : World) (base hb x d lb : Nat) (v : Value) (o : List Kn) (kind a b : Int) (S : ByteArray) (h : ShopAt w base hb x d lb v o) (ha : I64 a) (k1 : ¬ kind = 1) (k2 : ¬ kind = 2) (k3 : ¬ kind = 3) (k4 : ¬ kind = 4) :
    Calls Try.prog 14 #[.pointer (some ⟨hb, 0, none⟩), .agg #[.int .i64 kind, .int .i64 a, .int .i64 b, .string S]] w fun e w' => ∃ v' o', e = .returned (.bool true) ∧ ShopAt w' base hb x d lb v' o' ∧ Touch base w w' := by
  have hj := pickI_lt a 40 (by decide)
  have hlen := h.len
  obtain ⟨k, hk⟩ : ∃ k, o[pickI a 40]? = some k := ⟨o[pickI a 40], List.getElem?_eq_getElem (by omega)⟩
  have hblt := h.shop.lt
  have hllt := h.list.lt
  have hP := fun W => pickK W a 40 (by decide) (by decide) ha.1 ha.2
  have hK := keyOf (w.alloc (.cells #[.int .i64 kind, .int .i64 a, .int .i64 b, .string S] 53)) a ha.1 ha.2
  generalize pickI a 40 = j at *
  have hp0 : (0 : Int) ≤ (j : Int) := by omega
  have hp1 : (j : Int) < 40 := by omega
  go_enter Try.func14, Try.ntmps14
  go_wp2_with fail
  refine hK.mono ?_
  rintro e w1 ⟨rfl, hf1⟩
  have hB1 := hf1.at (at_alloc w #[.int .i64 kind, .int .i64 a, .int .i64 b, .string S] 53) (by simp)
  have h1 := (h.fr ((Fr.refl [] w).alloc _)).fr hf1
  have hF1 := ((Fr.refl [] w).alloc (.cells #[.int .i64 kind, .int .i64 a, .int .i64 b, .string S] 53)).trans hf1
  have c0 : w1.cell? ⟨w.heap.size, 0, none⟩ = some (.int .i64 kind) := hB1.cell 0
  have c1 : w1.cell? ⟨w.heap.size, 1, none⟩ = some (.int .i64 a) := hB1.cell 1
  have c2 : w1.cell? ⟨w.heap.size, 2, none⟩ = some (.int .i64 b) := hB1.cell 2
  have c3 : w1.cell? ⟨w.heap.size, 3, none⟩ = some (.string S) := hB1.cell 3
  have g0 : w1.cell? ⟨hb, 0, none⟩ = some (.pointer (some ⟨x, 0, none⟩)) := h1.shop.cell 0
  have g2 : w1.cell? ⟨hb, 2, none⟩ = some (.slice (some ⟨lb, 0, none⟩) 40 40) := h1.shop.cell 2
  clear hf1 h
  go_wp2_with fail
  go_region_held3 (fun w' => w'.cell? ⟨hb, 2, none⟩ = some (.slice (some ⟨lb, 0, none⟩) 40 40) ∧ w'.cell? ⟨w.heap.size, 1, none⟩ = some (.int .i64 a)) (go_keep) ((go_at_call 17; refine (hP _).mono ?_; rintro e w2 ⟨rfl, rfl⟩))
  have hf1d : Fr [] w1 w1.drew := (Fr.refl [] w1).drew
  have h2 := h1.fr hf1d
  have hB2 := hf1d.at hB1 (by simp)
  have hF2 := hF1.trans hf1d
  generalize w1.drew = W at *
  clear h1 hB1 hF1 hf1d c0 c1 c2 c3 g0 g2
  have c0 : W.cell? ⟨w.heap.size, 0, none⟩ = some (.int .i64 kind) := hB2.cell 0
  have c1 : W.cell? ⟨w.heap.size, 1, none⟩ = some (.int .i64 a) := hB2.cell 1
  have c2 : W.cell? ⟨w.heap.size, 2, none⟩ = some (.int .i64 b) := hB2.cell 2
  have c3 : W.cell? ⟨w.heap.size, 3, none⟩ = some (.string S) := hB2.cell 3
  have q1 : (kind == 1) = false := by simpa using k1
  have q2 : (kind == 2) = false := by simpa using k2
  have q3 : (kind == 3) = false := by simpa using k3
  have q4 : (kind == 4) = false := by simpa using k4
  clear hP hK hB2
  go_wp2_with fail
  go_ret
  exact ⟨v, o, rfl, h2, Touch.of hF2 (by simp)⟩

theorem shopStep (w : World) (base hb x d lb : Nat) (v : Value) (o : List Kn) (kind a b : Int) (S : ByteArray) (h : ShopAt w base hb x d lb v o) (ha : I64 a) (hbb : I64 b) (hS : S.size ≤ 140737488355328) :
    Calls Try.prog 14 #[.pointer (some ⟨hb, 0, none⟩), .agg #[.int .i64 kind, .int .i64 a, .int .i64 b, .string S]] w fun e w' => ∃ v' o', e = .returned (.bool true) ∧ ShopAt w' base hb x d lb v' o' ∧ Touch base w w' := by
  by_cases k1 : kind = 1
  · subst k1; exact step1 w base hb x d lb v o a b S h ha hbb hS
  · by_cases k2 : kind = 2
    · subst k2; exact step2 w base hb x d lb v o a b S h ha
    · by_cases k3 : kind = 3
      · subst k3; exact step3 w base hb x d lb v o a b S h ha
      · by_cases k4 : kind = 4
        · subst k4; exact step4 w base hb x d lb v o a b S h ha
        · exact step0 w base hb x d lb v o kind a b S h ha k1 k2 k3 k4
end Go.Proofs.Ytmeplfpnpogalaa.kp
