/-
  Heaps: plain lemmas.
-/
import Derived.Test.YtmeplfpnpogalaaKpN
namespace Go.Proofs.Ytmeplfpnpogalaa.kp

section
variable {α : Type} (le : α → α → Prop)
def Heap (f : Nat → α) (n : Nat) : Prop := ∀ c, 0 < c → c < n → le (f ((c - 1) / 2)) (f c)
/-- a heap but for the place i, which may be too far down -/
def UpAt (f : Nat → α) (n i : Nat) : Prop := (∀ c, 0 < c → c < n → c ≠ i → le (f ((c - 1) / 2)) (f c)) ∧ (∀ c, 0 < i → 0 < c → c < n → (c - 1) / 2 = i → le (f ((i - 1) / 2)) (f c))
/-- a heap but for the place i, which may be too far up -/
def DownAt (f : Nat → α) (n i : Nat) : Prop := (∀ c, 0 < c → c < n → (c - 1) / 2 ≠ i → le (f ((c - 1) / 2)) (f c)) ∧ (∀ c, 0 < i → 0 < c → c < n → (c - 1) / 2 = i → le (f ((i - 1) / 2)) (f c))
def swapF (f : Nat → α) (i j : Nat) : Nat → α := fun c => if c = i then f j else if c = j then f i else f c
variable {le} {f : Nat → α} {n i : Nat}
theorem UpAt.done0 (h : UpAt le f n 0) : Heap le f n := fun c hc hn => h.1 c hc hn (by omega)
theorem UpAt.done (h : UpAt le f n i) (hi : le (f ((i - 1) / 2)) (f i)) : Heap le f n := fun c hc hn => by
  by_cases e : c = i
  · rw [e]; exact hi
  · exact h.1 c hc hn e
theorem UpAt.step (trans : ∀ a b c, le a b → le b c → le a c) (h : UpAt le f n i) (h0 : 0 < i) (hn : i < n) (hi : le (f i) (f ((i - 1) / 2))) : UpAt le (swapF f ((i - 1) / 2) i) n ((i - 1) / 2) := by
  obtain ⟨p, hp⟩ : ∃ p, p = (i - 1) / 2 := ⟨_, rfl⟩
  rw [← hp] at hi ⊢
  have hpi : p < i := by omega
  refine ⟨fun c hc hcn hcp => ?_, fun c hp0 hc hcn hcp => ?_⟩
  · unfold swapF
    by_cases e1 : c = i
    · rw [if_neg hcp, if_pos e1]
      have : (c - 1) / 2 = p := by omega
      rw [this, if_pos rfl]
      exact hi
    · rw [if_neg hcp, if_neg e1]
      by_cases e2 : (c - 1) / 2 = p
      · rw [if_pos e2]
        have := h.1 c hc hcn e1
        rw [e2] at this
        exact trans _ _ _ hi this
      · rw [if_neg e2]
        by_cases e3 : (c - 1) / 2 = i
        · rw [if_pos e3]
          have := h.2 c h0 hc hcn e3
          rw [← hp] at this
          exact this
        · rw [if_neg e3]
          exact h.1 c hc hcn e1
  · unfold swapF
    have e1 : ¬ (p - 1) / 2 = p := by omega
    have e2 : ¬ (p - 1) / 2 = i := by omega
    rw [if_neg e1, if_neg e2]
    have hpp := h.1 p hp0 (by omega) (by omega)
    have ec : ¬ c = p := by omega
    rw [if_neg ec]
    by_cases e3 : c = i
    · rw [if_pos e3]
      exact hpp
    · rw [if_neg e3]
      have := h.1 c hc hcn e3
      rw [hcp] at this
      exact trans _ _ _ hpp this
/-- the place of the child that goes ahead -/
theorem DownAt.done (h : DownAt le f n i) (hc : ∀ c, 0 < c → c < n → (c - 1) / 2 = i → le (f i) (f c)) : Heap le f n := fun c hc0 hn => by
  by_cases e : (c - 1) / 2 = i
  · rw [e]; exact hc c hc0 hn e
  · exact h.1 c hc0 hn e
theorem DownAt.step (h : DownAt le f n i) {j : Nat} (hj0 : 0 < j) (hjn : j < n) (hji : (j - 1) / 2 = i) (hle : le (f j) (f i)) (hsib : ∀ c, 0 < c → c < n → (c - 1) / 2 = i → le (f j) (f c)) : DownAt le (swapF f i j) n j := by
  have hij : i < j := by omega
  refine ⟨fun c hc hcn hcj => ?_, fun c _ hc hcn hcj => ?_⟩
  · unfold swapF
    by_cases e1 : c = i
    · have e2 : ¬ (c - 1) / 2 = i := by omega
      have e3 : ¬ (c - 1) / 2 = j := by omega
      rw [if_neg e2, if_neg e3, if_pos e1]
      have hi0 : 0 < i := by omega
      have := h.2 j hi0 hj0 hjn hji
      rw [e1]
      exact this
    · rw [if_neg e1]
      by_cases e2 : (c - 1) / 2 = i
      · rw [if_pos e2]
        by_cases e3 : c = j
        · rw [if_pos e3]; exact hle
        · rw [if_neg e3]; exact hsib c hc hcn e2
      · rw [if_neg e2, if_neg hcj]
        have e3 : ¬ c = j := fun e => e2 (by rw [e]; exact hji)
        rw [if_neg e3]
        exact h.1 c hc hcn e2
  · unfold swapF
    rw [hji, if_pos rfl]
    have e1 : ¬ c = i := by omega
    have e2 : ¬ c = j := by omega
    rw [if_neg e1, if_neg e2]
    have := h.1 c hc hcn (by omega)
    rw [hcj] at this
    exact this
/-- the root goes ahead of all -/
theorem Heap.root (refl : ∀ a, le a a) (trans : ∀ a b c, le a b → le b c → le a c) (h : Heap le f n) : ∀ c, c < n → le (f 0) (f c) := by
  intro c
  induction c using Nat.strongRecOn with
  | _ c ih =>
    intro hc
    by_cases h0 : c = 0
    · rw [h0]; exact refl _
    · exact trans _ _ _ (ih ((c - 1) / 2) (by omega) (by omega)) (h c (by omega) hc)
end

theorem perm_swap {α : Type} {l : List α} {i j : Nat} {x y : α} (hi : l[i]? = some x) (hj : l[j]? = some y) : ((l.set i y).set j x).Perm l := by
  classical
  have hil : i < l.length := (List.getElem?_eq_some_iff.1 hi).1
  have hjl : j < l.length := (List.getElem?_eq_some_iff.1 hj).1
  have hix := (List.getElem?_eq_some_iff.1 hi).2
  have hjy := (List.getElem?_eq_some_iff.1 hj).2
  rw [List.perm_iff_count]
  intro b
  rw [List.count_set (by simpa using hjl), List.count_set hil]
  have c1 : (if (l[i] == b) = true then 1 else 0) ≤ l.count b := by
    split
    · rename_i e
      have : l[i] = b := by simpa using e
      rw [← this]
      exact List.one_le_count_iff.2 (List.getElem_mem hil)
    · omega
  have e : (l.set i y)[j]'(by simpa using hjl) = y := by
    rw [List.getElem_set]
    split
    · rfl
    · exact hjy
  rw [e, hix] at *
  rw [hix] at c1
  omega
end Go.Proofs.Ytmeplfpnpogalaa.kp
