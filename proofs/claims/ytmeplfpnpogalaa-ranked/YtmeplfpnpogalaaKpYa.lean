/-
  Ranked: how many are not behind the last that is told.
-/
import Derived.Test.YtmeplfpnpogalaaKpY
namespace Go.Proofs.Ytmeplfpnpogalaa.kp
open Go.RowKit dk

def cndE (size : Nat) (was : ByteArray) (e : Ent) : Bool := decide (size < e.blob.size) || (e.blob.size == size && leqK e.key was)
theorem cnt_live (size : Nat) (was : ByteArray) (o : List Kn) (i : Nat) (hok : ∀ k ∈ o, k.Ok) : cntF size was i o = (liveE (entsF i o)).countP (cndE size was) := by
  induction o generalizing i with
  | nil => rfl
  | cons k o ih =>
    have h1 := ih (i + 1) (fun x hx => hok x (List.mem_cons_of_mem _ hx))
    have hst := (hok k (List.mem_cons_self ..)).st
    have e1 : liveE (entsF i (k :: o)) = liveE (entOf i k) ++ liveE (entsF (i + 1) o) := by simp [entsF, liveE]
    rw [e1, List.countP_append, ← h1]
    simp only [cntF]
    congr 1
    obtain ⟨ks, kb⟩ := k
    dsimp only at hst
    rcases hst with rfl | rfl | rfl
    · simp [cnd, entOf, liveE]
    · have e2 : cndE size was ⟨keyB i, kb, false⟩ = (decide (size < kb.size) || (kb.size == size && leqK (keyB i) was)) := rfl
      simp only [cnd, entOf, liveE]
      by_cases h : (decide (size < kb.size) || (kb.size == size && leqK (keyB i) was)) = true
      · simp [e2, h]
      · simp [e2, h]
    · simp [cnd, entOf, liveE]
theorem leqK_keys {a b : Nat} (ha : a < 40) (hb : b < 40) : leqK (keyB a) (keyB b) = decide (a ≤ b) := by
  unfold leqK
  have h1 : Op.bytesLess (keyB a).toList (keyB b).toList = decide (a < b) := klK ha hb
  rw [h1]
  by_cases e : a = b
  · subst e; simp
  · have h2 : ((keyB a).toList == (keyB b).toList) = false := by
      rw [beq_eq_false_iff_ne]
      intro h
      apply e
      apply keyB_inj ha hb
      rw [toListD, toListD] at h
      exact ByteArray.ext (Array.toList_inj.1 h)
    rw [h2, Bool.or_false]
    by_cases h3 : a < b
    · have h4 : a ≤ b := by omega
      simp [h3, h4]
    · have h4 : ¬ a ≤ b := by omega
      simp [h3, h4]
theorem cndE_iff {x y : Ent} (hx : Good x) (hy : Good y) : cndE y.blob.size y.key x = true ↔ leE x y := by
  obtain ⟨a, ha, ea⟩ := hx
  obtain ⟨b, hb, eb⟩ := hy
  rw [leE_iff ha hb ea eb]
  unfold cndE
  rw [ea, eb, leqK_keys ha hb]
  simp
theorem cnt_told {o : List Kn} (h40 : o.length = 40) (hok : ∀ k ∈ o, k.Ok) {out rest : List Ent} (t : Told (liveE (entsF 0 o)) out rest) {last : Ent} (hl : out.getLast? = some last) : cntF last.blob.size last.key 0 o = out.length := by
  have hg : ∀ e ∈ out ++ rest, Good e := fun e he => entsF_good o h40 e ((List.mem_filter.1 (t.perm.mem_iff.1 he)).1)
  have hlm : last ∈ out := List.mem_of_getLast? hl
  obtain ⟨s1, s2⟩ := t.strict (live_nodup o h40)
  rw [cnt_live _ _ o 0 hok, ← t.perm.countP_eq, List.countP_append]
  have c1 : out.countP (cndE last.blob.size last.key) = out.length := by
    rw [List.countP_eq_length]
    intro e he
    rw [cndE_iff (hg e (List.mem_append_left _ he)) (hg last (List.mem_append_left _ hlm))]
    obtain ⟨init, rfl⟩ : ∃ init, out = init ++ [last] := by
      obtain ⟨h1, h2⟩ := List.getLast?_eq_some_iff.1 hl
      exact ⟨_, h2⟩
    rcases List.mem_append.1 he with h | h
    · rw [List.pairwise_append] at s1
      exact (s1.2.2 e h last (by simp)).1.2.2
    · simp at h
      rw [h]
      exact leE_refl (hg last (List.mem_append_left _ hlm))
  have c2 : rest.countP (cndE last.blob.size last.key) = 0 := by
    rw [List.countP_eq_zero]
    intro y hy hc
    rw [cndE_iff (hg y (List.mem_append_right _ hy)) (hg last (List.mem_append_left _ hlm))] at hc
    have := s2 last hlm y hy
    exact this.2 ⟨hg y (List.mem_append_right _ hy), hg last (List.mem_append_left _ hlm), hc⟩
  rw [c1, c2]
  rfl
/-- what Get tells of one that is told -/
theorem told_get {o : List Kn} (h40 : o.length = 40) (hok : ∀ k ∈ o, k.Ok) {e : Ent} (he : e ∈ liveE (entsF 0 o)) : ∃ t, t < 40 ∧ e.key = keyB t ∧ getE (entsF 0 o) (keyB t) = (e.blob, 0) ∧ e.blob.size ≤ 200 ∧ (∃ k, o[t]? = some k) := by
  obtain ⟨h1, h2⟩ := List.mem_filter.1 he
  obtain ⟨t, k, hk, h0, rfl⟩ := entsF_of h1
  have ht : t < o.length := (List.getElem?_eq_some_iff.1 hk).1
  have hkok := hok k (List.mem_of_getElem? hk)
  have hst := hkok.st
  have h3 : k.state = 1 := by
    rcases hst with h | h | h
    · exact absurd h h0
    · exact h
    · rw [h] at h2; simp at h2
  refine ⟨t, by omega, by simp, ?_, hkok.size, k, hk⟩
  exact getE1 hk h40 h3
end Go.Proofs.Ytmeplfpnpogalaa.kp
