/-
  What the caller knows of forty keys, against the entries: plain lemmas.
-/
import Derived.Test.YtmeplfpnpogalaaKpC
namespace Go.Proofs.Ytmeplfpnpogalaa.kp
open Go.RowKit dk

structure Kn where
  state : Int
  blob : ByteArray
structure Kn.Ok (k : Kn) : Prop where
  st : k.state = 0 ∨ k.state = 1 ∨ k.state = 2
  size : k.blob.size ≤ 200
  dead : k.state = 2 → k.blob = ByteArray.empty
def entOf (i : Nat) (k : Kn) : List Ent := if k.state = 0 then [] else [⟨keyB i, k.blob, k.state == 2⟩]
def entsF : Nat → List Kn → List Ent
  | _, [] => []
  | i, k :: o => entOf i k ++ entsF (i + 1) o
def usedK (o : List Kn) : Nat := (o.map fun k => if k.state > 0 then 24 + k.blob.size else 0).sum

theorem entsF_append (a b : List Kn) (i : Nat) : entsF i (a ++ b) = entsF i a ++ entsF (i + a.length) b := by
  induction a generalizing i with
  | nil => simp [entsF]
  | cons k a ih =>
    simp only [List.cons_append, entsF, ih (i + 1), List.append_assoc, List.length_cons]
    rw [show i + 1 + a.length = i + (a.length + 1) by omega]
theorem entsF_split {o : List Kn} {j : Nat} {k : Kn} (h : o[j]? = some k) : entsF 0 o = entsF 0 (o.take j) ++ (entOf j k ++ entsF (j + 1) (o.drop (j + 1))) := by
  have hj : j < o.length := (List.getElem?_eq_some_iff.1 h).1
  have hk := (List.getElem?_eq_some_iff.1 h).2
  conv => lhs; rw [← List.take_append_drop j o, List.drop_eq_getElem_cons hj, hk]
  rw [entsF_append]
  simp only [entsF]
  rw [List.length_take, Nat.min_eq_left (by omega), Nat.zero_add]
theorem entsF_mem {i : Nat} {o : List Kn} {e : Ent} (h : e ∈ entsF i o) : ∃ t, i ≤ t ∧ t < i + o.length ∧ e.key = keyB t := by
  induction o generalizing i with
  | nil => simp [entsF] at h
  | cons k o ih =>
    simp only [entsF, List.mem_append] at h
    rcases h with h | h
    · unfold entOf at h
      split at h
      · simp at h
      · simp at h
        exact ⟨i, Nat.le_refl _, by simp, by rw [h]⟩
    · obtain ⟨t, h1, h2, h3⟩ := ih h
      exact ⟨t, by omega, by simp; omega, h3⟩
theorem entsF_length (i : Nat) (o : List Kn) : (entsF i o).length ≤ o.length := by
  induction o generalizing i with
  | nil => simp [entsF]
  | cons k o ih =>
    have := ih (i + 1)
    simp only [entsF, List.length_append, List.length_cons]
    have h1 : (entOf i k).length ≤ 1 := by unfold entOf; split <;> simp
    omega
theorem usedK_eq (i : Nat) (o : List Kn) (h : ∀ k ∈ o, k.Ok) : usedN (entsF i o) = usedK o := by
  induction o generalizing i with
  | nil => rfl
  | cons k o ih =>
    have h1 := ih (i + 1) (fun x hx => h x (List.mem_cons_of_mem _ hx))
    have hk := (h k (List.mem_cons_self ..)).st
    unfold usedN at h1 ⊢
    unfold usedK at h1 ⊢
    simp only [entsF, List.map_append, List.sum_append_nat, List.map_cons, List.sum_cons, h1]
    congr 1
    unfold entOf
    rcases hk with e | e | e <;> simp [e]

theorem pos_split {A B : List Ent} {k : ByteArray} (hA : ∀ e ∈ A, cmpB e.key k < 0) (hB : ∀ e ∈ B, ¬ cmpB e.key k < 0) : pos (A ++ B) k = A.length := by
  unfold pos
  rw [List.countP_append, List.countP_eq_length.2 (fun e he => by simpa using hA e he), List.countP_eq_zero.2 (fun e he => by simpa using hB e he), Nat.add_zero]
theorem mono_split {A B : List Ent} {k : ByteArray} (hA : ∀ e ∈ A, cmpB e.key k < 0) (hB : ∀ e ∈ B, ¬ cmpB e.key k < 0) : Mono (A ++ B) k := by
  intro a b x y hab hx hy hlt
  have hb : b < A.length := by
    apply Classical.byContradiction
    intro hn
    rw [List.getElem?_append_right (by omega)] at hy
    exact hB y (List.mem_of_getElem? hy) hlt
  rw [List.getElem?_append_left (by omega)] at hx
  exact hA x (List.mem_of_getElem? hx)

section
variable {o : List Kn} {j : Nat} {k : Kn} (h : o[j]? = some k) (h40 : o.length = 40)
include h h40
theorem below : ∀ e ∈ entsF 0 (o.take j), cmpB e.key (keyB j) < 0 := by
  have hj : j < o.length := (List.getElem?_eq_some_iff.1 h).1
  intro e he
  obtain ⟨t, _, h2, h3⟩ := entsF_mem he
  rw [List.length_take, Nat.min_eq_left (by omega)] at h2
  rw [h3]
  exact (keyCmp (by omega) (by omega)).1.2 (by omega)
theorem above : ∀ e ∈ entsF (j + 1) (o.drop (j + 1)), ¬ cmpB e.key (keyB j) < 0 := by
  have hj : j < o.length := (List.getElem?_eq_some_iff.1 h).1
  intro e he hlt
  obtain ⟨t, h1, h2, h3⟩ := entsF_mem he
  rw [List.length_drop] at h2
  rw [h3] at hlt
  have := (keyCmp (i := t) (j := j) (by omega) (by omega)).1.1 hlt
  omega
theorem rest : ∀ e ∈ entOf j k ++ entsF (j + 1) (o.drop (j + 1)), ¬ cmpB e.key (keyB j) < 0 := by
  have hj : j < o.length := (List.getElem?_eq_some_iff.1 h).1
  intro e he hlt
  rcases List.mem_append.1 he with h1 | h1
  · unfold entOf at h1
    split at h1
    · simp at h1
    · simp at h1
      rw [h1] at hlt
      have := (keyCmp (i := j) (j := j) (by omega) (by omega)).1.1 hlt
      omega
  · exact above h h40 e h1 hlt
theorem monoK : Mono (entsF 0 o) (keyB j) := by
  rw [entsF_split h]
  exact mono_split (below h h40) (rest h h40)
theorem posK : pos (entsF 0 o) (keyB j) = (entsF 0 (o.take j)).length := by
  rw [entsF_split h]
  exact pos_split (below h h40) (rest h h40)
theorem hasK0 (h0 : k.state = 0) : has (entsF 0 o) (keyB j) = false := by
  unfold has
  rw [posK h h40, entsF_split h, List.getElem?_append_right (Nat.le_refl _), Nat.sub_self]
  have e0 : entOf j k = [] := by unfold entOf; rw [if_pos h0]
  rw [e0, List.nil_append]
  have hj : j < o.length := (List.getElem?_eq_some_iff.1 h).1
  cases he : (entsF (j + 1) (o.drop (j + 1)))[0]? with
  | none => rfl
  | some e =>
    have hm := List.mem_of_getElem? he
    obtain ⟨t, h1, h2, h3⟩ := entsF_mem hm
    rw [List.length_drop] at h2
    simp only [decide_eq_false_iff_not]
    rw [h3]
    intro hz
    have := (keyCmp (i := t) (j := j) (by omega) (by omega)).2.1 hz
    omega
theorem getK (h0 : k.state ≠ 0) : (entsF 0 o)[pos (entsF 0 o) (keyB j)]? = some ⟨keyB j, k.blob, k.state == 2⟩ := by
  rw [posK h h40, entsF_split h, List.getElem?_append_right (Nat.le_refl _), Nat.sub_self]
  have e0 : entOf j k = [⟨keyB j, k.blob, k.state == 2⟩] := by unfold entOf; rw [if_neg h0]
  rw [e0]
  rfl
theorem hasK1 (h0 : k.state ≠ 0) : has (entsF 0 o) (keyB j) = true := by
  have hj : j < o.length := (List.getElem?_eq_some_iff.1 h).1
  unfold has
  rw [getK h h40 h0]
  simp only [decide_eq_true_eq]
  exact (keyCmp (by omega) (by omega)).2.2 rfl
theorem getE0 (h0 : k.state = 0) : getE (entsF 0 o) (keyB j) = (ByteArray.empty, 5) := by unfold getE; rw [hasK0 h h40 h0]; rfl
theorem getE1 (h0 : k.state = 1) : getE (entsF 0 o) (keyB j) = (k.blob, 0) := by
  unfold getE
  rw [hasK1 h h40 (by omega), getK h h40 (by omega)]
  simp [h0]
theorem getE2 (h0 : k.state = 2) : getE (entsF 0 o) (keyB j) = (ByteArray.empty, 6) := by
  unfold getE
  rw [hasK1 h h40 (by omega), getK h h40 (by omega)]
  simp [h0]
theorem insK (h0 : k.state = 0) (x : ByteArray) : insertAt (entsF 0 o) (pos (entsF 0 o) (keyB j)) ⟨keyB j, x, false⟩ = entsF 0 (o.set j ⟨1, x⟩) := by
  have hj : j < o.length := (List.getElem?_eq_some_iff.1 h).1
  have h' : (o.set j ⟨1, x⟩)[j]? = some ⟨1, x⟩ := by simp [hj]
  rw [posK h h40, entsF_split h', entsF_split h]
  have e0 : entOf j k = [] := by unfold entOf; rw [if_pos h0]
  have e1 : entOf j ⟨1, x⟩ = [⟨keyB j, x, false⟩] := rfl
  rw [e0, e1, List.nil_append]
  unfold insertAt
  rw [List.take_left, List.drop_left, List.take_set_of_le (Nat.le_refl _), List.drop_set_of_lt (by omega)]
  rfl
theorem setK (h0 : k.state = 1) : (entsF 0 o).set (pos (entsF 0 o) (keyB j)) ⟨keyB j, ByteArray.empty, true⟩ = entsF 0 (o.set j ⟨2, ByteArray.empty⟩) := by
  have hj : j < o.length := (List.getElem?_eq_some_iff.1 h).1
  have h' : (o.set j ⟨2, ByteArray.empty⟩)[j]? = some ⟨2, ByteArray.empty⟩ := by simp [hj]
  rw [posK h h40, entsF_split h', entsF_split h]
  have e0 : entOf j k = [⟨keyB j, k.blob, k.state == 2⟩] := by unfold entOf; rw [if_neg (by omega)]
  have e1 : entOf j ⟨2, ByteArray.empty⟩ = [⟨keyB j, ByteArray.empty, true⟩] := rfl
  rw [e0, e1, List.set_append_right _ _ (Nat.le_refl _), Nat.sub_self, List.take_set_of_le (Nat.le_refl _), List.drop_set_of_lt (by omega)]
  rfl
end
end Go.Proofs.Ytmeplfpnpogalaa.kp
