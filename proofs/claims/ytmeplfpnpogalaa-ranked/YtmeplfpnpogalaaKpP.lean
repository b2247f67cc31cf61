/-
  container/heap over largestFirst: up, down, Push, Pop.
-/
import Derived.Test.YtmeplfpnpogalaaKpO
namespace Go.Proofs.Ytmeplfpnpogalaa.kp
open Go.RowKit dk

/-- a heap's list in memory: the variable at p, its row -/
structure HeapAt (w : World) (base p : Nat) (v : Value) (l : List Ent) : Prop where
  blk : At w p #[v] 143
  row : w.ownsRow base 145 3 v l.length (entsV l)
  le : base ≤ p
  small : l.length < 1073741824
def hI (p : Nat) : Value := .iface 147 (.pointer (some ⟨p, 0, none⟩))
def leE (x y : Ent) : Prop := ahead y x = false
def e0 : Ent := ⟨ByteArray.empty, ByteArray.empty, false⟩
def atE (l : List Ent) (c : Nat) : Ent := l.getD c e0
theorem atE_get {l : List Ent} {c : Nat} (h : c < l.length) : l[c]? = some (atE l c) := by
  unfold atE
  rw [List.getD_eq_getElem?_getD, List.getElem?_eq_getElem h]
  rfl
theorem atE_swap {l : List Ent} {i j : Nat} (hi : i < l.length) (hj : j < l.length) : atE ((l.set i (atE l j)).set j (atE l i)) = swapF (atE l) i j := by
  funext c
  unfold swapF
  conv => lhs; unfold atE
  rw [List.getD_eq_getElem?_getD, List.getElem?_set, List.length_set]
  by_cases e1 : j = c
  · subst e1
    rw [if_pos rfl, if_pos hj]
    by_cases e2 : j = i
    · rw [if_pos e2, e2]; rfl
    · rw [if_neg e2, if_pos rfl]; rfl
  · rw [if_neg e1, List.getElem?_set]
    by_cases e2 : i = c
    · subst e2
      rw [if_pos rfl, if_pos hi, if_pos rfl]; rfl
    · rw [if_neg e2, if_neg (fun h => e2 h.symm), if_neg (fun h => e1 h.symm)]
      unfold atE
      rw [List.getD_eq_getElem?_getD]

theorem runLoad (W : World) (p : Nat) (v : Value) (h : W.cell? ⟨p, 0, none⟩ = some v) : Sem.run Try.prog (loadVar 143 ⟨p, 0, none⟩) W = .ok v W := by
  simp [loadVar, Try.isAgg143, go_sem, h]
theorem mLess (W : World) (p : Nat) (v : Value) (h : W.cell? ⟨p, 0, none⟩ = some v) : Sem.run Try.prog (method 315 147 (.pointer (some ⟨p, 0, none⟩)) "Less") W = .ok (156, v) W := by
  have e : Sem.run Try.prog (method 315 147 (.pointer (some ⟨p, 0, none⟩)) "Less") W = Sem.run Try.prog ((loadVar 143 ⟨p, 0, none⟩).bind fun r => .pure (156, r)) W := by kernel_rfl
  have e2 := runLoad W p v h
  rw [e]
  show Sem.run Try.prog (loadVar 143 ⟨p, 0, none⟩ >>= fun r => pure (156, r)) W = _
  rw [Sem.run_bind, e2]
  rfl
theorem mSwap (W : World) (p : Nat) (v : Value) (h : W.cell? ⟨p, 0, none⟩ = some v) : Sem.run Try.prog (method 315 147 (.pointer (some ⟨p, 0, none⟩)) "Swap") W = .ok (157, v) W := by
  have e : Sem.run Try.prog (method 315 147 (.pointer (some ⟨p, 0, none⟩)) "Swap") W = Sem.run Try.prog ((loadVar 143 ⟨p, 0, none⟩).bind fun r => .pure (157, r)) W := by kernel_rfl
  have e2 := runLoad W p v h
  rw [e]
  show Sem.run Try.prog (loadVar 143 ⟨p, 0, none⟩ >>= fun r => pure (157, r)) W = _
  rw [Sem.run_bind, e2]
  rfl
theorem mLen (W : World) (p : Nat) (v : Value) (h : W.cell? ⟨p, 0, none⟩ = some v) : Sem.run Try.prog (method 315 147 (.pointer (some ⟨p, 0, none⟩)) "Len") W = .ok (155, v) W := by
  have e : Sem.run Try.prog (method 315 147 (.pointer (some ⟨p, 0, none⟩)) "Len") W = Sem.run Try.prog ((loadVar 143 ⟨p, 0, none⟩).bind fun r => .pure (155, r)) W := by kernel_rfl
  have e2 := runLoad W p v h
  rw [e]
  show Sem.run Try.prog (loadVar 143 ⟨p, 0, none⟩ >>= fun r => pure (155, r)) W = _
  rw [Sem.run_bind, e2]
  rfl
theorem mPush (W : World) (p : Nat) : Sem.run Try.prog (method 315 147 (.pointer (some ⟨p, 0, none⟩)) "Push") W = .ok (159, .pointer (some ⟨p, 0, none⟩)) W := by kernel_rfl
theorem mPop (W : World) (p : Nat) : Sem.run Try.prog (method 315 147 (.pointer (some ⟨p, 0, none⟩)) "Pop") W = .ok (158, .pointer (some ⟨p, 0, none⟩)) W := by kernel_rfl
end Go.Proofs.Ytmeplfpnpogalaa.kp
