/-
  PLAIN: Bytes and Harmed of both disks.
-/
import Derived.Test.YtjgnheelcbkahaaDkR
namespace Go.Proofs.Ytjgnheelcbkahaa.dk
open Go.RowKit

def Uq (l : List Cel) : Prop := l.Pairwise (fun a b => b.is a.dev a.blk = false)

theorem hasL_append (a b : List Cel) (d k : Int) : hasL (a ++ b) d k = (hasL a d k || hasL b d k) := by simp [hasL]

theorem told_has (l o : List Cel) (d b : Int) : hasL (l.foldl toldStep o) d b = (hasL o d b || hasL l d b) := by
  induction l generalizing o with
  | nil => simp [hasL]
  | cons x l ih =>
    rw [List.foldl_cons, ih]
    have e : hasL (x :: l) d b = (x.is d b || hasL l d b) := rfl
    rw [e]
    unfold toldStep
    cases h : hasL o x.dev x.blk with
    | true =>
      simp only [if_true]
      cases hx : x.is d b with
      | false => simp
      | true =>
        have e2 := (is_iff _ _ _).1 hx
        rw [e2.1, e2.2] at h
        simp [h]
    | false =>
      simp only [Bool.false_eq_true, if_false]
      rw [hasL_append]
      have e3 : hasL [x] d b = x.is d b := by simp [hasL]
      rw [e3, Bool.or_assoc]

theorem told_uq (l o : List Cel) (h : Uq o) : Uq (l.foldl toldStep o) := by
  induction l generalizing o with
  | nil => exact h
  | cons x l ih =>
    rw [List.foldl_cons]
    apply ih
    unfold toldStep
    cases hh : hasL o x.dev x.blk with
    | true => simpa using h
    | false =>
      simp only [Bool.false_eq_true, if_false]
      unfold Uq
      rw [List.pairwise_append]
      refine ⟨h, List.pairwise_singleton _ _, ?_⟩
      intro a ha y hy
      simp only [List.mem_singleton] at hy
      subst hy
      have h2 := List.any_eq_false.1 hh a ha
      cases h3 : y.is a.dev a.blk with
      | false => rfl
      | true =>
        have e := (is_iff _ _ _).1 h3
        exact absurd ((is_iff _ _ _).2 ⟨e.1.symm, e.2.symm⟩) (by simpa using h2)

theorem toldL_has (l : List Cel) (d b : Int) : hasL (toldL l) d b = hasL l d b := by
  unfold toldL; rw [told_has]; simp [hasL]
theorem toldL_uq (l : List Cel) : Uq (toldL l) := told_uq l [] List.Pairwise.nil

theorem blockL_none (l : List Cel) (d b : Int) (h : hasL l d b = false) (x : ByteArray × Bool) : l.foldl (deedStep d b) x = x := by
  induction l generalizing x with
  | nil => rfl
  | cons c l ih =>
    have e : hasL (c :: l) d b = (c.is d b || hasL l d b) := rfl
    rw [e, Bool.or_eq_false_iff] at h
    rw [List.foldl_cons, ih h.2]
    unfold deedStep
    rw [h.1]; rfl

theorem sum_one (T : List Cel) (h : Uq T) (c : Cel) (k : Nat) (hh : hasL T c.dev c.blk = true) : (T.map fun x => if c.is x.dev x.blk then k else 0).sum = k := by
  have sym : ∀ x : Cel, c.is x.dev x.blk = x.is c.dev c.blk := fun x => by
    rw [Bool.eq_iff_iff, is_iff, is_iff]; exact ⟨fun h => ⟨h.1.symm, h.2.symm⟩, fun h => ⟨h.1.symm, h.2.symm⟩⟩
  have zero : ∀ T : List Cel, hasL T c.dev c.blk = false → (T.map fun x => if c.is x.dev x.blk then k else 0).sum = 0 := by
    intro T
    induction T with
    | nil => intro _; rfl
    | cons y T ih =>
      intro h0
      have e : hasL (y :: T) c.dev c.blk = (y.is c.dev c.blk || hasL T c.dev c.blk) := rfl
      rw [e, Bool.or_eq_false_iff] at h0
      rw [List.map_cons, List.sum_cons, ih h0.2, sym, h0.1]; rfl
  induction T with
  | nil => simp [hasL] at hh
  | cons y T ih =>
    have e : hasL (y :: T) c.dev c.blk = (y.is c.dev c.blk || hasL T c.dev c.blk) := rfl
    have h' := List.pairwise_cons.1 h
    rw [List.map_cons, List.sum_cons, sym]
    cases hy : y.is c.dev c.blk with
    | true =>
      have h0 : hasL T c.dev c.blk = false := by
        unfold hasL
        rw [List.any_eq_false]
        intro z hz hzi
        have e1 := (is_iff _ _ _).1 hy
        have := h'.1 z hz
        rw [e1.1, e1.2] at this
        rw [this] at hzi; cases hzi
      rw [zero T h0]; rfl
    | false =>
      rw [e, hy, Bool.false_or] at hh
      rw [ih h'.2 hh]
      simp

theorem look_cons (c : Cel) (N : List Cel) (d b : Int) : look (c :: N) d b = if c.is d b then (c.data, !c.sp) else look N d b := by
  unfold look
  rw [List.find?_cons]
  cases c.is d b <;> rfl

theorem sum_look (N : List Cel) (hN : Gd N) (T : List Cel) (hT : Uq T) (hc : ∀ c ∈ N, hasL T c.dev c.blk = true) : (T.map fun x => (look N x.dev x.blk).1.size).sum = bytesL N := by
  induction N with
  | nil =>
    have : ∀ x : Cel, (look [] x.dev x.blk).1.size = 0 := fun _ => rfl
    simp only [this]
    show (T.map fun _ => 0).sum = 0
    induction T with
    | nil => rfl
    | cons y T ih =>
      rw [List.map_cons, List.sum_cons, ih (List.pairwise_cons.1 hT).2 (by simp)]
      rfl
  | cons c N ih =>
    have hp := List.pairwise_cons.1 hN.uniq
    have hN' : Gd N := ⟨hp.2, fun x hx => hN.ne x (by simp [hx]), fun x hx => hN.sz x (by simp [hx])⟩
    have key : ∀ x : Cel, (look (c :: N) x.dev x.blk).1.size = (look N x.dev x.blk).1.size + if c.is x.dev x.blk then c.data.size else 0 := by
      intro x
      rw [look_cons]
      cases hi : c.is x.dev x.blk with
      | false => simp
      | true =>
        have e := (is_iff _ _ _).1 hi
        have hnone : N.find? (fun y => y.is x.dev x.blk) = none := by
          rw [List.find?_eq_none]
          intro y hy hyi
          have := hp.1 y hy
          rw [e.1, e.2] at this
          rw [this] at hyi; cases hyi
        have : look N x.dev x.blk = (ByteArray.empty, true) := by unfold look; rw [hnone]
        rw [this]
        show c.data.size = 0 + c.data.size
        omega
    simp only [key]
    have add : ∀ (T : List Cel) (f g : Cel → Nat), (T.map fun x => f x + g x).sum = (T.map f).sum + (T.map g).sum := by
      intro T f g
      induction T with
      | nil => rfl
      | cons y T ih => simp only [List.map_cons, List.sum_cons, ih]; omega
    rw [add, ih hN' (fun x hx => hc x (by simp [hx])), sum_one T hT c c.data.size (hc c (by simp))]
    unfold bytesL
    rw [List.map_cons, List.sum_cons]
    omega

theorem look_mem {N : List Cel} (h : Gd N) {c : Cel} (hc : c ∈ N) : look N c.dev c.blk = (c.data, !c.sp) := by
  unfold look
  cases hf : N.find? (fun y => y.is c.dev c.blk) with
  | none =>
    have := List.find?_eq_none.1 hf c hc
    simp [Cel.is] at this
  | some y =>
    have e : y = c := pair_uniq h (List.mem_of_find?_eq_some hf) hc (by simpa using List.find?_some hf)
    rw [e]

theorem Sim.told {D : Dsk} {R : Rsk} (h : Sim D R) (c : Cel) (hc : c ∈ D.now) : hasL (toldL R.l) c.dev c.blk = true := by
  rw [toldL_has]
  cases hh : hasL R.l c.dev c.blk with
  | true => rfl
  | false =>
    have h1 := h.now c.dev c.blk
    rw [look_mem h.gn hc] at h1
    unfold blockL at h1
    rw [blockL_none _ _ _ hh] at h1
    have h2 := h.gn.ne c hc
    injection h1 with h3
    rw [h3, noBytes_empty] at h2
    cases h2

theorem sim_bytes {D : Dsk} {R : Rsk} (h : Sim D R) : bytesL D.now = refBytesL R.l (toldL R.l) := by
  unfold refBytesL
  rw [← sum_look D.now h.gn (toldL R.l) (toldL_uq R.l) (fun c hc => h.told c hc)]
  congr 1
  apply List.map_congr_left
  intro x _
  rw [h.now]

theorem sim_harmed {D : Dsk} {R : Rsk} (h : Sim D R) (k : Nat) : badDev D.now k = refBad R.l (toldL R.l) k := by
  rw [Bool.eq_iff_iff]
  unfold badDev refBad
  rw [List.any_eq_true, List.any_eq_true]
  constructor
  · rintro ⟨c, hc, hp⟩
    rw [Bool.and_eq_true, beq_iff_eq] at hp
    have ht := h.told c hc
    unfold hasL at ht
    rw [List.any_eq_true] at ht
    obtain ⟨x, hx, hi⟩ := ht
    have e := (is_iff _ _ _).1 hi
    refine ⟨x, hx, ?_⟩
    rw [Bool.and_eq_true, beq_iff_eq]
    refine ⟨e.1.trans hp.1, ?_⟩
    rw [e.2, ← hp.1, ← h.now, look_mem h.gn hc, hp.2]
    rfl
  · rintro ⟨x, hx, hp⟩
    rw [Bool.and_eq_true, beq_iff_eq] at hp
    have h1 := hp.2
    rw [← h.now] at h1
    unfold look at h1
    cases hf : D.now.find? (fun c => c.is (k : Int) x.blk) with
    | none => rw [hf] at h1; cases h1
    | some c =>
      rw [hf] at h1
      have e := (is_iff c _ _).1 (by simpa using List.find?_some hf)
      refine ⟨c, List.mem_of_find?_eq_some hf, ?_⟩
      rw [Bool.and_eq_true, beq_iff_eq]
      exact ⟨e.1, by simpa using h1⟩

theorem sim_harmedTo {D : Dsk} {R : Rsk} (h : Sim D R) : harmedTo (badDev D.now) 9 = harmedTo (refBad R.l (toldL R.l)) 9 := by
  have : badDev D.now = refBad R.l (toldL R.l) := funext fun k => sim_harmed h k
  rw [this]

theorem bytesL_bound {l : List Cel} (h : Gd l) : bytesL l ≤ 2048 * l.length := by
  have key : ∀ l : List Cel, (∀ c ∈ l, c.data.size ≤ 2048) → bytesL l ≤ 2048 * l.length := by
    intro l
    induction l with
    | nil => intro _; simp [bytesL]
    | cons c l ih =>
      intro hh
      have h1 := hh c (by simp)
      have h2 := ih (fun x hx => hh x (by simp [hx]))
      unfold bytesL at h2 ⊢
      rw [List.map_cons, List.sum_cons, List.length_cons]
      omega
  exact key l h.sz

end Go.Proofs.Ytjgnheelcbkahaa.dk
