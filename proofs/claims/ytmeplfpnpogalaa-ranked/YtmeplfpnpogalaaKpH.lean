/-
  A step of a script.
-/
import Derived.Test.YtmeplfpnpogalaaKpG
import Derived.Deep.RegionHeld3
namespace Go.Proofs.Ytmeplfpnpogalaa.kp
open Go.RowKit dk

def I64 (n : Int) : Prop := -9223372036854775808 ≤ n ∧ n ≤ 9223372036854775807
def Touch (base : Nat) (w w' : World) : Prop := ∃ S, Fr S w w' ∧ ∀ k ∈ S, base ≤ k
theorem Touch.of {base : Nat} {w w' : World} {S : List Nat} (h : Fr S w w') (hS : ∀ k ∈ S, base ≤ k) : Touch base w w' := ⟨S, h, hS⟩
theorem Touch.trans {base : Nat} {a b c : World} (h : Touch base a b) (k : Touch base b c) : Touch base a c := by
  obtain ⟨S, h1, h2⟩ := h
  obtain ⟨T, k1, k2⟩ := k
  refine ⟨S ++ T, (h1.mono (fun x _ hx => List.mem_append_left _ hx)).trans (k1.mono (fun x _ hx => List.mem_append_right _ hx)), fun x hx => ?_⟩
  rcases List.mem_append.1 hx with h | h
  · exact h2 x h
  · exact k2 x h

set_option maxRecDepth 100000 in
set_option maxHeartbeats 8000000 in
theorem step1 (w : World) (base hb x d lb : Nat) (v : Value) (o : List Kn) (a b : Int) (S : ByteArray) (h : ShopAt w base hb x d lb v o) (ha : I64 a) (hbb : I64 b) (hS : S.size ≤ 140737488355328) :
    Calls Try.prog 14 #[.pointer (some ⟨hb, 0, none⟩), .agg #[.int .i64 1, .int .i64 a, .int .i64 b, .string S]] w fun e w' => ∃ v' o', e = .returned (.bool true) ∧ ShopAt w' base hb x d lb v' o' ∧ Touch base w w' := by
  have hj := pickI_lt a 40 (by decide)
  have hlen := h.len
  obtain ⟨k, hk⟩ : ∃ k, o[pickI a 40]? = some k := ⟨o[pickI a 40], List.getElem?_eq_getElem (by omega)⟩
  have hblt := h.shop.lt
  have hllt := h.list.lt
  have hP := fun W => pickK W a 40 (by decide) (by decide) ha.1 ha.2
  have hK := keyOf (w.alloc (.cells #[.int .i64 1, .int .i64 a, .int .i64 b, .string S] 53)) a ha.1 ha.2
  generalize pickI a 40 = j at *
  have hp0 : (0 : Int) ≤ (j : Int) := by omega
  have hp1 : (j : Int) < 40 := by omega
  go_enter Try.func14, Try.ntmps14
  go_wp2_with fail
  refine hK.mono ?_
  rintro e w1 ⟨rfl, hf1⟩
  have hB1 := hf1.at (at_alloc w #[.int .i64 1, .int .i64 a, .int .i64 b, .string S] 53) (by simp)
  have h1 := (h.fr ((Fr.refl [] w).alloc _)).fr hf1
  have hF1 := ((Fr.refl [] w).alloc (.cells #[.int .i64 1, .int .i64 a, .int .i64 b, .string S] 53)).trans hf1
  have c0 : w1.cell? ⟨w.heap.size, 0, none⟩ = some (.int .i64 1) := hB1.cell 0
  have c1 : w1.cell? ⟨w.heap.size, 1, none⟩ = some (.int .i64 a) := hB1.cell 1
  have c2 : w1.cell? ⟨w.heap.size, 2, none⟩ = some (.int .i64 b) := hB1.cell 2
  have c3 : w1.cell? ⟨w.heap.size, 3, none⟩ = some (.string S) := hB1.cell 3
  have g0 : w1.cell? ⟨hb, 0, none⟩ = some (.pointer (some ⟨x, 0, none⟩)) := h1.shop.cell 0
  have g2 : w1.cell? ⟨hb, 2, none⟩ = some (.slice (some ⟨lb, 0, none⟩) 40 40) := h1.shop.cell 2
  clear hf1 h
  go_wp2_with fail
  go_region_held3 (fun w' => w'.cell? ⟨hb, 2, none⟩ = some (.slice (some ⟨lb, 0, none⟩) 40 40) ∧ w'.cell? ⟨w.heap.size, 1, none⟩ = some (.int .i64 a)) (go_keep) ((go_at_call 17; refine (hP _).mono ?_; rintro e w2 ⟨rfl, rfl⟩))
  have hf1d : Fr [] w1 w1.drew := (Fr.refl [] w1).drew
  have h2 := h1.fr hf1d
  have hB2 := hf1d.at hB1 (by simp)
  have hF2 := hF1.trans hf1d
  generalize w1.drew = W at *
  clear h1 hB1 hF1 hf1d c0 c1 c2 c3 g0 g2
  have c0 : W.cell? ⟨w.heap.size, 0, none⟩ = some (.int .i64 1) := hB2.cell 0
  have c1 : W.cell? ⟨w.heap.size, 1, none⟩ = some (.int .i64 a) := hB2.cell 1
  have c2 : W.cell? ⟨w.heap.size, 2, none⟩ = some (.int .i64 b) := hB2.cell 2
  have c3 : W.cell? ⟨w.heap.size, 3, none⟩ = some (.string S) := hB2.cell 3
  go_wp2_with fail
  refine (blobOf W 1 a b S hbb.1 hbb.2 hS).mono ?_
  rintro e W3 ⟨xb, rfl, hxb, hf3⟩
  have h3 := h2.fr hf3
  have hF3 := hF2.trans hf3
  clear hP hK h2 hB2 hF2 hf3 c0 c1 c2 c3
  go_wp2_with fail
  refine (shopUsed W3 hb lb o (h3.shop.cell 2) h3.list h3.len h3.ok).mono ?_
  rintro e W4 ⟨rfl, rfl⟩
  have hu := usedK_le o h3.ok
  rw [hlen] at hu
  have HU : Hid (usedN (entsF 0 o) = usedK o) := usedK_eq 0 o h3.ok
  have hel := entsF_length 0 o
  have g0 : W4.cell? ⟨hb, 0, none⟩ = some (.pointer (some ⟨x, 0, none⟩)) := h3.shop.cell 0
  go_wp2_with fail
  have C5 := stPut W4 base x v (entsF 0 o) (keyB j) xb h3.store (keyOk hj) (monoK hk h3.len) (by omega) (by rw [HU.out]; omega) hxb
  refine C5.mono ?_
  rintro e W5 ⟨v5, rfl, hS5, hf5⟩
  obtain ⟨n1, n2, n3⟩ := h3.apart mem_own
  have hL5 := hf5.at h3.list n2
  have d0 := (knAt hL5 hk).1
  have d1 := (knAt hL5 hk).2
  have hz5 := hL5.frozen
  have hFt : Touch base w W5 := (Touch.of hF3 (by simp)).trans (Touch.of hf5 h3.store.own_le)
  have hst := (h3.ok k (List.mem_of_getElem? hk)).st
  have HPL : Hid (putL (entsF 0 o) (keyB j) xb = _) := rfl
  have HMP : Hid (mayPutE (entsF 0 o) (keyB j) xb = _) := rfl
  clear g0 C5 n1 n2 n3 hL5
  obtain ⟨ks, kb⟩ := k
  dsimp only at hst d0 d1
  rcases hst with rfl | rfl | rfl
  · have hg := getE0 hk hlen rfl
    by_cases hfull : usedK o + 24 + xb.size > 6000
    · have e1 : mayPutE (entsF 0 o) (keyB j) xb = 3 := by unfold mayPutE; rw [hg, HU.out]; simp; omega
      have e2 : putL (entsF 0 o) (keyB j) xb = entsF 0 o := by unfold putL; rw [e1]; rfl
      rw [e2] at hS5
      rw [e1]
      clear HPL HMP e1 e2 hg
      go_wp2_with fail
      go_ret
      exact ⟨v5, o, rfl, h3.store_set hf5 mem_own hS5, hFt⟩
    · have e1 : mayPutE (entsF 0 o) (keyB j) xb = 0 := by unfold mayPutE; rw [hg, HU.out]; simp; omega
      have e2 : putL (entsF 0 o) (keyB j) xb = entsF 0 (o.set j ⟨1, xb⟩) := by unfold putL; rw [e1]; exact insK hk hlen rfl xb
      rw [e2] at hS5
      rw [e1]
      clear HPL HMP e1 e2 hg
      go_wp2_with fail
      go_ret
      exact ⟨v5, _, rfl, h3.noted hf5 mem_own hk ⟨.inr (.inl rfl), hxb, fun h => by cases h⟩ hS5, hFt.trans (Touch.of (((Fr.refl [lb] W5).setCell _ (.inl (by simp)) _).setCell _ (.inl (by simp)) _) (fun y hy => by simp at hy; subst hy; exact h3.lel))⟩
  · have hg := getE1 hk hlen rfl
    have e1 : mayPutE (entsF 0 o) (keyB j) xb = 4 := by unfold mayPutE; rw [hg]; rfl
    have e2 : putL (entsF 0 o) (keyB j) xb = entsF 0 o := by unfold putL; rw [e1]; rfl
    rw [e2] at hS5
    rw [e1]
    clear HPL HMP e1 e2 hg
    go_wp2_with fail
    go_ret
    exact ⟨v5, o, rfl, h3.store_set hf5 mem_own hS5, hFt⟩
  · have hg := getE2 hk hlen rfl
    have e1 : mayPutE (entsF 0 o) (keyB j) xb = 6 := by unfold mayPutE; rw [hg]; rfl
    have e2 : putL (entsF 0 o) (keyB j) xb = entsF 0 o := by unfold putL; rw [e1]; rfl
    rw [e2] at hS5
    rw [e1]
    clear HPL HMP e1 e2 hg
    go_wp2_with fail
    go_ret
    exact ⟨v5, o, rfl, h3.store_set hf5 mem_own hS5, hFt⟩
end Go.Proofs.Ytmeplfpnpogalaa.kp
