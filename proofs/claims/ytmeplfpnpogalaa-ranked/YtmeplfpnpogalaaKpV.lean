/-
  Keys behind a key: they rise.
-/
import Derived.Test.YtmeplfpnpogalaaKpU
namespace Go.Proofs.Ytmeplfpnpogalaa.kp
open Go.RowKit dk
theorem toListD (s : ByteArray) : s.toList = s.data.toList := by
  have h : ∀ n i r, s.size - i = n → ByteArray.toList.loop s i r = r.reverse ++ s.data.toList.drop i := by
    intro n
    induction n with
    | zero =>
      intro i r hi
      rw [ByteArray.toList.loop, if_neg (by omega), List.drop_of_length_le (by rw [Array.length_toList]; show s.size ≤ i; omega), List.append_nil]
    | succ n ih =>
      intro i r hi
      have hlt : i < s.size := by omega
      have hlt2 : i < s.data.toList.length := by rw [Array.length_toList]; exact hlt
      have hlt3 : i < s.data.size := hlt
      have e : s.get! i = s.data.toList[i] := by
        show s.data[i]! = _
        rw [getElem!_pos s.data i hlt3]
        simp
      rw [ByteArray.toList.loop, if_pos hlt, ih (i + 1) _ (by omega), List.drop_eq_getElem_cons hlt2, e]
      simp
  rw [ByteArray.toList, h s.size 0 [] rfl]
  simp
theorem less_cmp : ∀ (a b : List UInt8), Op.bytesLess a b = decide (Lib.compareBytes a b < 0)
  | [], [] => by simp [Op.bytesLess, Lib.compareBytes]
  | _ :: _, [] => by simp [Op.bytesLess, Lib.compareBytes]
  | [], _ :: _ => by simp [Op.bytesLess, Lib.compareBytes]
  | a :: x, b :: y => by
    rw [Op.bytesLess, less_cmp x y, Lib.compareBytes]
    by_cases h1 : a < b
    · simp [h1]
    · by_cases h2 : b < a
      · have h3 : ¬ a = b := fun e => by rw [e] at h2; exact absurd h2 (by simp)
        simp [h1, h2, h3]
      · have h3 : a = b := by
          apply UInt8.toNat_inj.1
          rw [UInt8.lt_iff_toNat_lt] at h1 h2
          omega
        simp [h3]
theorem cmp_zero : ∀ (a b : List UInt8), Lib.compareBytes a b = 0 → a = b
  | [], [], _ => rfl
  | _ :: _, [], h => by simp [Lib.compareBytes] at h
  | [], _ :: _, h => by simp [Lib.compareBytes] at h
  | a :: x, b :: y, h => by
    rw [Lib.compareBytes] at h
    split at h
    · simp at h
    · split at h
      · simp at h
      · rename_i h1 h2
        have h3 : a = b := by
          apply UInt8.toNat_inj.1
          rw [UInt8.lt_iff_toNat_lt] at h1 h2
          omega
        rw [h3, cmp_zero x y h]
theorem cmp_trans : ∀ (a b c : List UInt8), Lib.compareBytes a b < 0 → Lib.compareBytes b c < 0 → Lib.compareBytes a c < 0
  | _, [], [], _, h => by simp [Lib.compareBytes] at h
  | [], _, _ :: _, _, _ => by simp [Lib.compareBytes]
  | _, _ :: _, [], _, h => by simp [Lib.compareBytes] at h
  | _ :: _, [], _ :: _, h, _ => by simp [Lib.compareBytes] at h
  | a :: x, b :: y, c :: z, h1, h2 => by
    have ih := cmp_trans x y z
    rw [Lib.compareBytes] at h1 h2 ⊢
    simp only [UInt8.lt_iff_toNat_lt] at h1 h2 ⊢
    by_cases e1 : a.toNat < b.toNat
    · by_cases e2 : b.toNat < c.toNat
      · rw [if_pos (by omega)]; decide
      · by_cases e3 : c.toNat < b.toNat
        · rw [if_neg e2, if_pos e3] at h2; simp at h2
        · rw [if_pos (by omega)]; decide
    · by_cases e4 : b.toNat < a.toNat
      · rw [if_neg e1, if_pos e4] at h1; simp at h1
      · rw [if_neg e1, if_neg e4] at h1
        by_cases e2 : b.toNat < c.toNat
        · rw [if_pos (by omega)]; decide
        · by_cases e3 : c.toNat < b.toNat
          · rw [if_neg e2, if_pos e3] at h2; simp at h2
          · rw [if_neg e2, if_neg e3] at h2
            rw [if_neg (by omega), if_neg (by omega)]
            exact ih h1 h2
theorem cmp_anti : ∀ (a b : List UInt8), 0 < Lib.compareBytes a b → Lib.compareBytes b a < 0
  | [], [], h => by simp [Lib.compareBytes] at h
  | _ :: _, [], _ => by simp [Lib.compareBytes]
  | [], _ :: _, h => by simp [Lib.compareBytes] at h
  | a :: x, b :: y, h => by
    have ih := cmp_anti x y
    rw [Lib.compareBytes] at h ⊢
    by_cases e1 : a < b
    · rw [if_pos e1] at h; simp at h
    · by_cases e2 : b < a
      · rw [if_pos e2]; decide
      · rw [if_neg e1, if_neg e2] at h
        rw [if_neg e2, if_neg e1]
        exact ih h
theorem kl_cmp (a b : ByteArray) : kl a b = decide (cmpB a b < 0) := by
  unfold kl cmpB
  rw [toListD, toListD, less_cmp]
theorem cmpB_trans {a b c : ByteArray} (h1 : cmpB a b < 0) (h2 : cmpB b c < 0) : cmpB a c < 0 := cmp_trans _ _ _ h1 h2

theorem monoAny (o : List Kn) (h40 : o.length = 40) (k : ByteArray) : Mono (entsF 0 o) k := by
  intro a b x y hab hx hy hlt
  rcases Nat.lt_or_eq_of_le hab with h | h
  · have h1 := List.pairwise_iff_getElem.1 (entsF_rise 0 o (by omega)) a b (List.getElem?_eq_some_iff.1 hx).1 (List.getElem?_eq_some_iff.1 hy).1 h
    rw [(List.getElem?_eq_some_iff.1 hx).2, (List.getElem?_eq_some_iff.1 hy).2] at h1
    obtain ⟨i, j, hij, hj, e1, e2⟩ := h1
    have h2 : cmpB x.key y.key < 0 := by rw [e1, e2]; exact (keyCmp (by omega) hj).1.2 hij
    exact cmpB_trans h2 hlt
  · subst h
    rw [hx] at hy
    cases hy
    exact hlt
theorem pos_ge {l : List Ent} {k : ByteArray} (hm : Mono l k) {t : Nat} {x : Ent} (hx : l[t]? = some x) (ht : pos l k ≤ t) : ¬ cmpB x.key k < 0 := by
  intro hlt
  have htl : t < l.length := (List.getElem?_eq_some_iff.1 hx).1
  have h1 : (l.take (t + 1)).countP (fun e => decide (cmpB e.key k < 0)) = (l.take (t + 1)).length := by
    rw [List.countP_eq_length]
    intro e he
    obtain ⟨a, ha, rfl⟩ := List.getElem_of_mem he
    have ha2 : a < t + 1 := by simp at ha; omega
    have : l[a]? = some (l.take (t + 1))[a] := by rw [List.getElem_take]; exact List.getElem?_eq_getElem _
    simpa using hm a t _ x (by omega) this hx hlt
  have h2 : (l.take (t + 1)).countP (fun e => decide (cmpB e.key k < 0)) ≤ pos l k := (List.take_sublist _ _).countP_le
  rw [h1, List.length_take] at h2
  omega
theorem ents_rise (o : List Kn) (h40 : o.length = 40) {a b : Nat} {x y : Ent} (hab : a < b) (hx : (entsF 0 o)[a]? = some x) (hy : (entsF 0 o)[b]? = some y) : cmpB x.key y.key < 0 := by
  have h1 := List.pairwise_iff_getElem.1 (entsF_rise 0 o (by omega)) a b (List.getElem?_eq_some_iff.1 hx).1 (List.getElem?_eq_some_iff.1 hy).1 hab
  rw [(List.getElem?_eq_some_iff.1 hx).2, (List.getElem?_eq_some_iff.1 hy).2] at h1
  obtain ⟨i, j, hij, hj, e1, e2⟩ := h1
  rw [e1, e2]
  exact (keyCmp (by omega) hj).1.2 hij
theorem behind (o : List Kn) (h40 : o.length = 40) (k : ByteArray) {t : Nat} {x : Ent} (hx : (entsF 0 o)[t]? = some x) (ht : fromL (entsF 0 o) k ≤ t) : cmpB k x.key < 0 := by
  have hm := monoAny o h40 k
  have htl : t < (entsF 0 o).length := (List.getElem?_eq_some_iff.1 hx).1
  have hpt : pos (entsF 0 o) k ≤ t := by unfold fromL at ht; omega
  have h0 := pos_ge hm hx hpt
  apply cmp_anti
  show 0 < cmpB x.key k
  apply Classical.byContradiction
  intro hn
  have hz : cmpB x.key k = 0 := by omega
  obtain ⟨y, hy⟩ : ∃ y, (entsF 0 o)[pos (entsF 0 o) k]? = some y := ⟨(entsF 0 o)[pos (entsF 0 o) k]'(by omega), List.getElem?_eq_getElem _⟩
  have hy0 := pos_ge hm hy (Nat.le_refl _)
  rcases Nat.lt_or_eq_of_le hpt with h | h
  · have hr := ents_rise o h40 h hy hx
    have e : x.key = k := by
      apply ByteArray.ext
      exact Array.toList_inj.1 (cmp_zero _ _ hz)
    rw [e] at hr
    exact hy0 hr
  · rw [h] at hy
    rw [hx] at hy
    cases hy
    have hh : has (entsF 0 o) k = true := by
      unfold has
      rw [h, hx]
      simpa using hz
    unfold fromL at ht
    rw [hh] at ht
    simp at ht
    omega
/-- those that are told behind a key: each is behind it, and they rise -/
theorem keys_rise (o : List Kn) (h40 : o.length = 40) (k : ByteArray) (n : Int) : (k :: keysL (entsF 0 o) k n).Pairwise fun a b => cmpB a b < 0 := by
  have hsub : (keysL (entsF 0 o) k n).Sublist (((entsF 0 o).drop (fromL (entsF 0 o) k)).map (·.key)) := by
    unfold keysL liveK
    exact (List.take_sublist _ _).trans (List.filter_sublist.map _)
  rw [List.pairwise_cons]
  refine ⟨fun b hb => ?_, ?_⟩
  · obtain ⟨e, he, rfl⟩ := List.mem_map.1 (hsub.subset hb)
    obtain ⟨t, ht, rfl⟩ := List.getElem_of_mem he
    rw [List.getElem_drop]
    exact behind o h40 k (List.getElem?_eq_getElem _) (by omega)
  · refine List.Pairwise.sublist hsub ?_
    rw [List.pairwise_map]
    refine List.Pairwise.sublist (List.drop_sublist _ _) ?_
    refine (entsF_rise 0 o (by omega)).imp ?_
    rintro x y ⟨i, j, hij, hj, e1, e2⟩
    rw [e1, e2]
    exact (keyCmp (by omega) hj).1.2 hij
end Go.Proofs.Ytmeplfpnpogalaa.kp
