/-
  PLAIN: the two disks go together.
-/
import Derived.Test.YtjgnheelcbkahaaDkP
import Derived.Laws.Closers25
namespace Go.Proofs.Ytjgnheelcbkahaa.dk
open Go.RowKit

theorem noBytes_iff (s : ByteArray) : noBytes s = true ↔ s = ByteArray.empty := by
  have h := decide_eq_emptyBytes s (inst := Classical.propDecidable _)
  unfold noBytes
  rw [← h]
  simp
theorem noBytes_empty : noBytes ByteArray.empty = true := (noBytes_iff _).2 rfl

/-- a block: its bytes, and whether it is whole -/
def look (l : List Cel) (d b : Int) : ByteArray × Bool :=
  match l.find? (fun c => c.is d b) with
  | none => (ByteArray.empty, true)
  | some c => (c.data, !c.sp)

theorem is_iff (c : Cel) (d b : Int) : c.is d b = true ↔ c.dev = d ∧ c.blk = b := by simp [Cel.is]

structure Gd (l : List Cel) : Prop where
  uniq : l.Pairwise (fun a b => b.is a.dev a.blk = false)
  ne : ∀ c ∈ l, noBytes c.data = false
  sz : ∀ c ∈ l, c.data.size ≤ 2048

theorem Gd.nil : Gd [] := ⟨List.Pairwise.nil, by simp, by simp⟩

theorem look_append_one (l : List Cel) (c : Cel) (d b : Int) : look (l ++ [c]) d b = match l.find? (fun c => c.is d b) with
    | none => if c.is d b then (c.data, !c.sp) else (ByteArray.empty, true)
    | some x => (x.data, !x.sp) := by
  unfold look
  rw [List.find?_append]
  cases h : l.find? (fun c => c.is d b) with
  | none =>
    cases h2 : c.is d b <;> simp [h2]
  | some x => simp

theorem find_others_same (l : List Cel) (d b : Int) : (others l d b).find? (fun c => c.is d b) = none := by
  rw [List.find?_eq_none]
  intro x hx
  simp only [others, List.mem_filter] at hx
  simpa using hx.2

theorem find_others (l : List Cel) (d0 b0 d b : Int) (hne : ¬ (d = d0 ∧ b = b0)) : (others l d0 b0).find? (fun c => c.is d b) = l.find? (fun c => c.is d b) := by
  induction l with
  | nil => rfl
  | cons x l ih =>
    simp only [others, List.filter_cons] at ih ⊢
    cases h : x.is d0 b0 with
    | false =>
      simp only [Bool.not_false, if_true, List.find?_cons]
      split
      · rfl
      · exact ih
    | true =>
      have hx := (is_iff x d0 b0).1 h
      have h2 : x.is d b = false := by
        cases h3 : x.is d b with
        | false => rfl
        | true =>
          have := (is_iff x d b).1 h3
          exact absurd ⟨this.1.symm.trans hx.1, this.2.symm.trans hx.2⟩ hne
      simp only [Bool.not_true, List.find?_cons, h2]
      exact ih

theorem look_putL (l : List Cel) (c : Cel) (d b : Int) : look (putL l c) d b = if c.is d b then (if noBytes c.data then (ByteArray.empty, true) else (c.data, !c.sp)) else look l d b := by
  unfold putL
  cases hi : c.is d b with
  | true =>
    obtain ⟨h1, h2⟩ := (is_iff c d b).1 hi
    subst h1 h2
    cases hn : noBytes c.data with
    | true => simp only [if_true, List.append_nil]; unfold look; rw [find_others_same]
    | false =>
      simp only [Bool.false_eq_true, if_false, if_true]
      rw [look_append_one, find_others_same]
      simp [hi]
  | false =>
    have hne : ¬ (d = c.dev ∧ b = c.blk) := fun h => by
      have : c.is d b = true := (is_iff c d b).2 ⟨h.1.symm, h.2.symm⟩
      rw [hi] at this; cases this
    cases hn : noBytes c.data with
    | true => simp only [if_true, List.append_nil, Bool.false_eq_true, if_false]; unfold look; rw [find_others _ _ _ _ _ hne]
    | false =>
      simp only [Bool.false_eq_true, if_false]
      rw [look_append_one, find_others _ _ _ _ _ hne, hi]
      unfold look
      cases l.find? (fun c => c.is d b) <;> rfl

theorem Gd.putL {l : List Cel} (h : Gd l) (c : Cel) (hs : c.data.size ≤ 2048) : Gd (putL l c) := by
  unfold dk.putL others
  have hf : ∀ x ∈ l.filter (fun x => !x.is c.dev c.blk), x ∈ l ∧ x.is c.dev c.blk = false := fun x hx => by simpa using List.mem_filter.1 hx
  cases hn : noBytes c.data with
  | true =>
    simp only [if_true, List.append_nil]
    exact ⟨h.uniq.filter _, fun x hx => h.ne x (hf x hx).1, fun x hx => h.sz x (hf x hx).1⟩
  | false =>
    simp only [Bool.false_eq_true, if_false]
    refine ⟨?_, ?_, ?_⟩
    · rw [List.pairwise_append]
      refine ⟨h.uniq.filter _, List.pairwise_singleton _ _, ?_⟩
      intro a ha x hx
      simp only [List.mem_singleton] at hx
      subst hx
      have := (hf a ha).2
      cases h2 : x.is a.dev a.blk with
      | false => rfl
      | true =>
        have h3 := (is_iff x a.dev a.blk).1 h2
        have : a.is x.dev x.blk = true := (is_iff _ _ _).2 ⟨h3.1.symm, h3.2.symm⟩
        rw [(hf a ha).2] at this; cases this
    · intro x hx
      rcases List.mem_append.1 hx with hx | hx
      · exact h.ne x (hf x hx).1
      · simp only [List.mem_singleton] at hx; subst hx; exact hn
    · intro x hx
      rcases List.mem_append.1 hx with hx | hx
      · exact h.sz x (hf x hx).1
      · simp only [List.mem_singleton] at hx; subst hx; exact hs

theorem spo_is (d0 b0 : Int) (c : Cel) (d b : Int) : (spo d0 b0 c).is d b = c.is d b := by unfold spo; split <;> rfl
theorem spo_data (d0 b0 : Int) (c : Cel) : (spo d0 b0 c).data = c.data := by unfold spo; split <;> rfl
theorem spo_dev (d0 b0 : Int) (c : Cel) : (spo d0 b0 c).dev = c.dev := by unfold spo; split <;> rfl
theorem spo_blk (d0 b0 : Int) (c : Cel) : (spo d0 b0 c).blk = c.blk := by unfold spo; split <;> rfl

theorem find_spoilL (l : List Cel) (d0 b0 d b : Int) : (spoilL l d0 b0).find? (fun c => c.is d b) = (l.find? (fun c => c.is d b)).map (spo d0 b0) := by
  induction l with
  | nil => rfl
  | cons x l ih =>
    simp only [spoilL, List.map_cons, List.find?_cons, spo_is] at ih ⊢
    split
    · rfl
    · exact ih

theorem Gd.spoilL {l : List Cel} (h : Gd l) (d0 b0 : Int) : Gd (spoilL l d0 b0) := by
  refine ⟨?_, ?_, ?_⟩
  · unfold dk.spoilL
    rw [List.pairwise_map]
    exact h.uniq.imp (fun {a b} hab => by rw [spo_is, spo_dev, spo_blk]; exact hab)
  · intro c hc
    obtain ⟨x, hx, rfl⟩ := List.mem_map.1 hc
    rw [spo_data]; exact h.ne x hx
  · intro c hc
    obtain ⟨x, hx, rfl⟩ := List.mem_map.1 hc
    rw [spo_data]; exact h.sz x hx

theorem look_spoilL {l : List Cel} (h : Gd l) (d0 b0 d b : Int) : look (spoilL l d0 b0) d b = if d = d0 ∧ b = b0 then ((look l d b).1, noBytes (look l d b).1) else look l d b := by
  unfold look
  rw [find_spoilL]
  cases hf : l.find? (fun c => c.is d b) with
  | none => simp [noBytes_empty]
  | some c =>
    have hm := List.mem_of_find?_eq_some hf
    have hi : c.is d b = true := by simpa using List.find?_some hf
    simp only [Option.map_some]
    by_cases hk : d = d0 ∧ b = b0
    · obtain ⟨rfl, rfl⟩ := hk
      simp [spo, hi, h.ne c hm]
    · have : c.is d0 b0 = false := by
        cases h3 : c.is d0 b0 with
        | false => rfl
        | true =>
          have e1 := (is_iff _ _ _).1 h3
          have e2 := (is_iff _ _ _).1 hi
          exact absurd ⟨e2.1.symm.trans e1.1, e2.2.symm.trans e1.2⟩ hk
      simp [spo, this, hk]

theorem spoilL_putL (l : List Cel) (c : Cel) (d0 b0 : Int) : spoilL (putL l c) d0 b0 = putL (spoilL l d0 b0) (spo d0 b0 c) := by
  unfold putL others
  rw [spo_data, spo_dev, spo_blk]
  unfold spoilL
  rw [List.map_append, List.filter_map]
  congr 1
  · congr 1
    apply List.filter_congr
    intro x _
    simp [spo_is]
  · cases noBytes c.data <;> rfl

/-- the loose writes one by one -/
def crashR (f : Nat → Bool) : Nat → List Cel → List Cel → List Cel
  | _, o, [] => o
  | k, o, c :: r => crashR f (k + 1) (if f k then putL o c else o) r

theorem crashR_snoc (f : Nat → Bool) (k : Nat) (o r : List Cel) (c : Cel) : crashR f k o (r ++ [c]) = if f (k + r.length) then putL (crashR f k o r) c else crashR f k o r := by
  induction r generalizing k o with
  | nil => rfl
  | cons x r ih =>
    simp only [List.cons_append, crashR, List.length_cons]
    rw [ih, show k + 1 + r.length = k + (r.length + 1) by omega]

theorem crashTo_eq (safe loose : List Cel) (keep : Int) (n : Nat) (hn : n ≤ loose.length) : crashTo safe loose keep n = crashR (keepBit keep) 0 safe (loose.take n) := by
  induction n with
  | zero => simp [crashTo, crashR]
  | succ n ih =>
    rw [crashTo_succ, ih (by omega)]
    have hc : loose[n]? = some loose[n] := List.getElem?_eq_getElem (by omega)
    unfold crashStep
    rw [hc, List.take_add_one, hc]
    show _ = crashR _ 0 safe (loose.take n ++ [loose[n]])
    rw [crashR_snoc, List.length_take, Nat.min_eq_left (by omega), Nat.zero_add]

theorem crashR_spoil (f : Nat → Bool) (k : Nat) (o r : List Cel) (d0 b0 : Int) : crashR f k (spoilL o d0 b0) (spoilL r d0 b0) = spoilL (crashR f k o r) d0 b0 := by
  induction r generalizing k o with
  | nil => rfl
  | cons x r ih =>
    show crashR f (k + 1) (if f k then putL (spoilL o d0 b0) (spo d0 b0 x) else spoilL o d0 b0) (spoilL r d0 b0) = spoilL (crashR f (k + 1) (if f k then putL o x else o) r) d0 b0
    rw [← ih]
    cases f k
    · rfl
    · simp only [if_true]; rw [spoilL_putL]

theorem Gd.crashR {f : Nat → Bool} {k : Nat} {o r : List Cel} (h : Gd o) (hr : ∀ c ∈ r, c.data.size ≤ 2048) : Gd (crashR f k o r) := by
  induction r generalizing k o with
  | nil => exact h
  | cons x r ih =>
    unfold dk.crashR
    apply ih
    · cases f k
      · exact h
      · exact h.putL x (hr x (by simp))
    · exact fun c hc => hr c (by simp [hc])

/-- the document's crash, by whatever is kept -/
def refGStep (l : List Cel) (safe : Int) (f : Nat → Bool) (o : List Cel × Nat) (i : Nat) : List Cel × Nat :=
  match l[i]? with
  | some x => if decide ((i : Int) < safe) || x.sp then (o.1 ++ [x], o.2) else (if f o.2 then o.1 ++ [x] else o.1, o.2 + 1)
  | none => o
def refG (l : List Cel) (safe : Int) (f : Nat → Bool) (n : Nat) : List Cel × Nat := (List.range n).foldl (refGStep l safe f) ([], 0)

theorem refG_eq (l : List Cel) (safe : Int) (keep : Int) (n : Nat) : refCrashTo l safe keep n = refG l safe (keepBit keep) n := rfl
theorem refG_succ (l : List Cel) (safe : Int) (f : Nat → Bool) (n : Nat) : refG l safe f (n + 1) = refGStep l safe f (refG l safe f n) n := by
  simp [refG, List.range_succ]
theorem refG_app (l : List Cel) (x : Cel) (safe : Int) (f : Nat → Bool) (n : Nat) (hn : n ≤ l.length) : refG (l ++ [x]) safe f n = refG l safe f n := by
  induction n with
  | zero => rfl
  | succ n ih =>
    rw [refG_succ, refG_succ, ih (by omega)]
    unfold refGStep
    rw [List.getElem?_append_left (by omega)]
theorem refG_snoc (l : List Cel) (x : Cel) (s : Nat) (f : Nat → Bool) (hs : s ≤ l.length) : refG (l ++ [x]) s f (l ++ [x]).length =
    if x.sp then ((refG l s f l.length).1 ++ [x], (refG l s f l.length).2) else (if f (refG l s f l.length).2 then (refG l s f l.length).1 ++ [x] else (refG l s f l.length).1, (refG l s f l.length).2 + 1) := by
  rw [List.length_append, List.length_singleton, refG_succ, refG_app l x s f l.length (Nat.le_refl _)]
  have hd : decide ((l.length : Int) < (s : Int)) = false := by simp; omega
  have hx : (l ++ [x])[l.length]? = some x := by simp
  unfold refGStep
  rw [hx]
  simp only [hd, Bool.false_or]
theorem refG_all (l : List Cel) (f : Nat → Bool) (n : Nat) (hn : n ≤ l.length) : refG l l.length f n = (l.take n, 0) := by
  induction n with
  | zero => rfl
  | succ n ih =>
    rw [refG_succ, ih (by omega)]
    have hc : l[n]? = some l[n] := List.getElem?_eq_getElem (by omega)
    have hd : decide ((n : Int) < (l.length : Int)) = true := by simp; omega
    unfold refGStep
    rw [hc, List.take_add_one, hc]
    simp only [hd, Bool.true_or, if_true]
    rfl

theorem blockL_snoc (l : List Cel) (x : Cel) (d b : Int) : blockL (l ++ [x]) d b = deedStep d b (blockL l d b) x := by simp [blockL]

end Go.Proofs.Ytjgnheelcbkahaa.dk
