/-
  PLAIN LEMMAS, OVER ANY PROGRAM: rows of structs of four cells; frames; disks in memory.
-/
import Derived.WalkKit
import Derived.Deep.AppendLies
import Derived.Deep.LoopGhost
import Derived.Below
import Derived.Deep.QuietTactic
import Derived.BigQuiet
import Derived.Deep.RegionLaw
import Derived.Deep.RegionWith
import Derived.WalkSmall
namespace Go.Proofs.Ytjgnheelcbkahaa.dk
open Go.RowKit

/-- a cell of disk.go, or a deed of the document's disk -/
structure Cel where
  dev : Int
  blk : Int
  data : ByteArray
  sp : Bool

def Cel.vs (c : Cel) : List Value := [.int .i64 c.dev, .int .i64 c.blk, .string c.data, .bool c.sp]
def cellsOf (l : List Cel) : List Value := l.flatMap Cel.vs

theorem cellsOf_length (l : List Cel) : (cellsOf l).length = l.length * 4 := by
  induction l with
  | nil => rfl
  | cons c l ih => simp only [cellsOf, List.flatMap_cons, List.length_append, List.length_cons] at ih ⊢; simp only [Cel.vs, List.length_cons, List.length_nil]; omega

theorem cellsOf_get (l : List Cel) (k j : Nat) (hj : j < 4) : (cellsOf l)[k * 4 + j]? = (l[k]?).bind fun c => c.vs[j]? := by
  induction l generalizing k with
  | nil => simp [cellsOf]
  | cons c l ih =>
    have hc : c.vs.length = 4 := rfl
    show (c.vs ++ cellsOf l)[k * 4 + j]? = _
    cases k with
    | zero => rw [List.getElem?_append_left (by omega)]; simp
    | succ k =>
      rw [List.getElem?_append_right (by omega), hc, show (k + 1) * 4 + j - 4 = k * 4 + j by omega, ih k]
      simp

theorem cellsOf_append (a b : List Cel) : cellsOf (a ++ b) = cellsOf a ++ cellsOf b := by simp [cellsOf]
theorem cellsOf_one (c : Cel) : cellsOf [c] = c.vs := by simp [cellsOf]

/-- what stands in the block b, whole -/
def At (w : World) (b : Nat) (cs : Array Value) (t : TypeId) : Prop := w.heap[b]? = some (.cells cs t (0, 0))

theorem At.cell {w : World} {b : Nat} {cs : Array Value} {t : TypeId} (h : At w b cs t) (i : Nat) : w.cell? ⟨b, i, none⟩ = cs[i]? := cell_of_row w b i cs t (0, 0) h
theorem At.frozen {w : World} {b : Nat} {cs : Array Value} {t : TypeId} (h : At w b cs t) (i : Nat) : w.frozen? ⟨b, i, none⟩ = false := frozen_of_row w b i cs t h
theorem At.lt {w : World} {b : Nat} {cs : Array Value} {t : TypeId} (h : At w b cs t) : b < w.heap.size := (Array.getElem?_eq_some_iff.1 h).1

/-- the frame: of the blocks that there were all but those of S are as they were -/
structure Fr (S : List Nat) (w w' : World) : Prop where
  os : w'.os = w.os
  tape : w'.tape = w.tape
  output : w'.output = w.output
  size : w.heap.size ≤ w'.heap.size
  block : ∀ k, k < w.heap.size → k ∉ S → w'.heap[k]? = w.heap[k]?

theorem Fr.refl (S : List Nat) (w : World) : Fr S w w := ⟨rfl, rfl, rfl, Nat.le_refl _, fun _ _ _ => rfl⟩
theorem Fr.trans {S : List Nat} {a b c : World} (h : Fr S a b) (k : Fr S b c) : Fr S a c :=
  ⟨k.os.trans h.os, k.tape.trans h.tape, k.output.trans h.output, Nat.le_trans h.size k.size,
   fun i hi hn => (k.block i (Nat.lt_of_lt_of_le hi h.size) hn).trans (h.block i hi hn)⟩
theorem Fr.mono {S T : List Nat} {w w' : World} (h : Fr S w w') (hs : ∀ k, k < w.heap.size → k ∈ S → k ∈ T) : Fr T w w' :=
  ⟨h.os, h.tape, h.output, h.size, fun k hk hn => h.block k hk (fun hm => hn (hs k hk hm))⟩
theorem Fr.nil {S : List Nat} {w w' : World} (h : Fr [] w w') : Fr S w w' := h.mono (fun _ _ h => absurd h (by simp))
theorem Fr.drew {S : List Nat} {a w : World} (h : Fr S a w) : Fr S a w.drew := ⟨h.os, h.tape, h.output, h.size, h.block⟩
theorem Fr.drewN {S : List Nat} {a w : World} (h : Fr S a w) (n : Nat) : Fr S a (w.drewN n) := ⟨h.os, h.tape, h.output, h.size, h.block⟩
theorem Fr.alloc {S : List Nat} {a w : World} (h : Fr S a w) (o : Obj) : Fr S a (w.alloc o) :=
  h.trans ⟨rfl, rfl, rfl, by simp, fun k hk _ => Below.heap_alloc _ _ _ hk⟩
theorem Fr.setCell {S : List Nat} {a w : World} (h : Fr S a w) (p : Addr) (hp : p.block ∈ S ∨ a.heap.size ≤ p.block) (u : Value) : Fr S a (w.setCell p u) :=
  ⟨h.os, h.tape, h.output, by rw [World.size_setCell]; exact h.size,
   fun k hk hn => (Below.heap_setCell _ _ _ _ (fun e => by subst e; rcases hp with h1 | h1 <;> first | exact hn h1 | omega)).trans (h.block k hk hn)⟩
theorem Fr.grown {S : List Nat} {a w w' : World} {row : Option Nat} (h : Fr S a w) (hg : w.grownBy w' row) (hr : ∀ k, row = some k → k ∈ S ∨ a.heap.size ≤ k) : Fr S a w' :=
  ⟨hg.os.trans h.os, hg.tape.trans h.tape, hg.output.trans h.output, Nat.le_trans h.size hg.size,
   fun k hk hn => (hg.block k (Nat.lt_of_lt_of_le hk h.size) (fun e => by rcases hr k e.symm with h1 | h1 <;> first | exact hn h1 | omega)).trans (h.block k hk hn)⟩
theorem Fr.below {w w' : World} (h : Fr [] w w') : Below w.heap.size w w' := ⟨h.os, h.tape, h.output, h.size, fun k hk => h.block k hk (by simp)⟩
theorem Fr.at {S : List Nat} {w w' : World} (h : Fr S w w') {b : Nat} {cs : Array Value} {t : TypeId} (ha : At w b cs t) (hn : b ∉ S) : At w' b cs t :=
  (h.block b ha.lt hn).trans ha
theorem Fr.row {S : List Nat} {w w' : World} (h : Fr S w w') {base : Nat} {e : TypeId} {size : Nat} {v : Value} {n : Nat} {xs : List Value} (hr : w.ownsRow base e size v n xs) (hn : ∀ b, v.ownBlock = some b → b ∉ S) : w'.ownsRow base e size v n xs := by
  refine ⟨hr.1, ?_⟩
  rcases hr.2 with h0 | ⟨g, cap, cur, rfl, hb, hg, rest⟩
  · exact .inl h0
  · exact .inr ⟨g, cap, cur, rfl, hb, (h.block g (Array.getElem?_eq_some_iff.1 hg).1 (hn g rfl)).trans hg, rest⟩

/-- the cells of a row of fours -/
theorem row4 {w : World} {base : Nat} {e : TypeId} {v : Value} {l : List Cel} (h : w.ownsRow base e 4 v l.length (cellsOf l)) :
    (v = .slice none 0 0 ∧ l = []) ∨ ∃ g cap, v = .slice (some ⟨g, 0, none⟩) l.length cap ∧ l.length ≤ cap ∧ cap ≤ maxLen ∧ base ≤ g ∧ g < w.heap.size ∧
      (∀ k c, l[k]? = some c → w.cell? ⟨g, k * 4, none⟩ = some (.int .i64 c.dev) ∧ w.cell? ⟨g, k * 4 + 1, none⟩ = some (.int .i64 c.blk) ∧ w.cell? ⟨g, k * 4 + 2, none⟩ = some (.string c.data) ∧ w.cell? ⟨g, k * 4 + 3, none⟩ = some (.bool c.sp)) ∧
      (∀ i, w.frozen? ⟨g, i, none⟩ = false) := by
  rcases h.2 with ⟨hv, hn⟩ | ⟨g, cap, cur, rfl, hb, hg, hle, hm, hs, ht⟩
  · exact .inl ⟨hv, List.eq_nil_of_length_eq_zero hn⟩
  · refine .inr ⟨g, cap, rfl, hle, hm, hb, (Array.getElem?_eq_some_iff.1 hg).1, fun k c hc => ?_, fun i => frozen_of_row w g i cur e hg⟩
    have hk : k < l.length := (List.getElem?_eq_some_iff.1 hc).1
    have key : ∀ j, j < 4 → w.cell? ⟨g, k * 4 + j, none⟩ = c.vs[j]? := fun j hj => by
      rw [h.cellAt (k * 4 + j) (by omega), cellsOf_get l k j hj, hc]; rfl
    exact ⟨key 0 (by decide), key 1 (by decide), key 2 (by decide), key 3 (by decide)⟩

/-- a new element, laid in a block of its own, is there to be appended -/
theorem news4 {w : World} {B : Nat} {c : Cel} {t : TypeId} (hb : At w B c.vs.toArray t) : ∀ j u, c.vs[j]? = some u → w.cell? ((⟨B, 0, none⟩ : Addr).add j) = some u :=
  World.news_of_block (cs := c.vs.toArray) hb
theorem one4 (c : Cel) : ∀ u ∈ c.vs, u.oneCell' = true := by
  intro u hu
  simp only [Cel.vs, List.mem_cons, List.not_mem_nil, or_false] at hu
  rcases hu with rfl | rfl | rfl | rfl <;> rfl

/-- append of one struct of four cells: where the new slice lies -/
theorem wpList_app4 {P : Program} (w : World) {ops : Array Oper} {rest : List Oper} {o : Oper} {a : Act} {Q : Exit → Act → World → Prop} (hgd : o.guard = none) (s x : Operand) (t : TypeId)
    (ho : o.op = .call { callee := .builtin .append, args := #[s, x], argTypes := #[t, t] })
    (base : Nat) (e : TypeId) (ht : P.underlying t = some (.slice e)) (hi : (P.info? e).map (fun i => (i.zero, i.size, i.bytes)) = some (some (.agg #[.int .i64 0, .int .i64 0, .string ByteArray.empty, .bool false]), 4, 40))
    (v : Value) (q : List Cel) (hs : a.eval s = v) (hown : w.ownsRow base e 4 v q.length (cellsOf q))
    (B : Nat) (c : Cel) (tt : TypeId) (hx : a.eval x = .slice (some ⟨B, 0, none⟩) 1 1) (hB : At w B c.vs.toArray tt) (hlen : q.length < 1073741824) (hbase : base ≤ w.heap.size)
    (h : ∀ g cap w', w'.ownsRow base e 4 (.slice (some ⟨g, 0, none⟩) (q.length + 1) cap) (q ++ [c]).length (cellsOf (q ++ [c])) → w.grownBy w' v.ownBlock → (v.ownBlock = some g ∨ g = w.heap.size) → wpList P ops Q rest (a.put o.dst (.slice (some ⟨g, 0, none⟩) (q.length + 1) cap)) w') : wpList P ops Q (o :: rest) a w := by
  obtain ⟨i0, hi, hz0, hz1, hz2⟩ := info_parts hi
  refine wpList_append_lies w hgd s x t ho base e i0 _ 4 40 ht hi hz0 hz1 hz2 rfl (by decide) v q.length (cellsOf q) hs hown ⟨B, 0, none⟩ 1 1 c.vs hx rfl (news4 hB) (one4 c) (by decide) (by unfold maxLen; omega) (by omega) hbase _ rfl ?_
  intro g cap w' h1 h2 h3 _
  refine h g cap w' ?_ h2 h3
  rw [cellsOf_append, cellsOf_one, List.length_append]
  exact h1

/-- the blocks of two allocations -/
theorem at_alloc (w : World) (cs : Array Value) (t : TypeId) : At (w.alloc (.cells cs t)) w.heap.size cs t := heap_alloc_new w _
theorem at_alloc2 (w : World) (X : Obj) (cs : Array Value) (t : TypeId) : At ((w.alloc X).alloc (.cells cs t)) (w.heap.size + 1) cs t := by
  have := heap_alloc_new (w.alloc X) (.cells cs t)
  simpa [At] using this
theorem At.alloc {w : World} {b : Nat} {cs : Array Value} {t : TypeId} (h : At w b cs t) (o : Obj) : At (w.alloc o) b cs t := ((Fr.refl [] w).alloc o).at h (by simp)
theorem At.grown {w w' : World} {b : Nat} {cs : Array Value} {t : TypeId} {row : Option Nat} (h : At w b cs t) (hg : w.grownBy w' row) (hne : row ≠ some b) : At w' b cs t :=
  (hg.block b h.lt (fun e => hne e.symm)).trans h

theorem row4' {w : World} {base : Nat} {e : TypeId} {v : Value} {l : List Cel} (h : w.ownsRow base e 4 v l.length (cellsOf l)) :
    ∃ a cap, v = .slice a l.length cap ∧ l.length ≤ cap ∧ cap ≤ maxLen ∧ (∀ k c, l[k]? = some c → ∃ g, a = some ⟨g, 0, none⟩ ∧ base ≤ g ∧ g < w.heap.size ∧
      w.cell? ⟨g, k * 4, none⟩ = some (.int .i64 c.dev) ∧ w.cell? ⟨g, k * 4 + 1, none⟩ = some (.int .i64 c.blk) ∧ w.cell? ⟨g, k * 4 + 2, none⟩ = some (.string c.data) ∧ w.cell? ⟨g, k * 4 + 3, none⟩ = some (.bool c.sp)) := by
  rcases row4 h with ⟨rfl, rfl⟩ | ⟨g, cap, rfl, h1, h2, h3, h4, h5, h6⟩
  · exact ⟨none, 0, rfl, Nat.le_refl _, by unfold maxLen; omega, fun k c hc => by simp at hc⟩
  · exact ⟨some ⟨g, 0, none⟩, cap, rfl, h1, h2, fun k c hc => ⟨g, rfl, h3, h4, h5 k c hc⟩⟩

theorem rowBase {w : World} {base base' : Nat} {e : TypeId} {size : Nat} {v : Value} {n : Nat} {xs : List Value} (h : w.ownsRow base e size v n xs) (hb : base' ≤ base) : w.ownsRow base' e size v n xs :=
  ⟨h.1, h.2.imp id fun ⟨g, cap, cur, h1, h2, h3⟩ => ⟨g, cap, cur, h1, Nat.le_trans hb h2, h3⟩⟩

/-- the same at a step of a region that draws its order -/
theorem step_app4 {P : Program} (w : World) {ops : Array Oper} {o : Oper} {a : Act} {K : Act → World → Prop} {Q : Exit → Act → World → Prop} {E : Prop} (hgd : o.guard = none) (s x : Operand) (t : TypeId)
    (ho : o.op = .call { callee := .builtin .append, args := #[s, x], argTypes := #[t, t] })
    (base : Nat) (e : TypeId) (ht : P.underlying t = some (.slice e)) (hi : (P.info? e).map (fun i => (i.zero, i.size, i.bytes)) = some (some (.agg #[.int .i64 0, .int .i64 0, .string ByteArray.empty, .bool false]), 4, 40))
    (v : Value) (q : List Cel) (hs : a.eval s = v) (hown : w.ownsRow base e 4 v q.length (cellsOf q))
    (B : Nat) (c : Cel) (tt : TypeId) (hx : a.eval x = .slice (some ⟨B, 0, none⟩) 1 1) (hB : At w B c.vs.toArray tt) (hlen : q.length < 1073741824) (hbase : base ≤ w.heap.size)
    (h : ∀ g cap w', w'.ownsRow base e 4 (.slice (some ⟨g, 0, none⟩) (q.length + 1) cap) (q ++ [c]).length (cellsOf (q ++ [c])) → w.grownBy w' v.ownBlock → (v.ownBlock = some g ∨ g = w.heap.size) → K (a.put o.dst (.slice (some ⟨g, 0, none⟩) (q.length + 1) cap)) w') :
    if Region.wanted o (yielded ops a.tmps) = true then Oper.wp P o a w K Q else E := by
  obtain ⟨i0, hi, hz0, hz1, hz2⟩ := info_parts hi
  refine step_append_lies w hgd s x t ho base e i0 _ 4 40 ht hi hz0 hz1 hz2 rfl (by decide) v q.length (cellsOf q) hs hown ⟨B, 0, none⟩ 1 1 c.vs hx rfl (news4 hB) (one4 c) (by decide) (by unfold maxLen; omega) (by omega) hbase _ rfl ?_
  intro g cap w' h1 h2 h3 _
  refine h g cap w' ?_ h2 h3
  rw [cellsOf_append, cellsOf_one, List.length_append]
  exact h1

theorem At.setOther {w : World} {b b' i : Nat} {cs : Array Value} {t : TypeId} (h : At w b cs t) (hne : b ≠ b') (v : Value) : At (w.setCell ⟨b', i, none⟩ v) b cs t :=
  (Below.heap_setCell w ⟨b', i, none⟩ v b hne).trans h
theorem At.drew {w : World} {b : Nat} {cs : Array Value} {t : TypeId} (h : At w b cs t) : At w.drew b cs t := h
theorem rowSetOther {w : World} {base : Nat} {e : TypeId} {size : Nat} {v : Value} {n : Nat} {xs : List Value} (h : w.ownsRow base e size v n xs) (b i : Nat) (hne : v.ownBlock ≠ some b) (u : Value) : (w.setCell ⟨b, i, none⟩ u).ownsRow base e size v n xs :=
  ((Fr.refl [b] w).setCell ⟨b, i, none⟩ (.inl (by simp)) u).row h (fun k hk => by simp only [List.mem_singleton]; intro h; exact hne (by rw [hk, h]))
theorem rowDrew {w : World} {base : Nat} {e : TypeId} {size : Nat} {v : Value} {n : Nat} {xs : List Value} (h : w.ownsRow base e size v n xs) : w.drew.ownsRow base e size v n xs := h

/-- numbers in a row -/
def intsOf (l : List Int) : List Value := l.map (.int .i64)
theorem intsOf_length (l : List Int) : (intsOf l).length = l.length := by simp [intsOf]

/-- append of one number -/
theorem wpList_app1 {P : Program} (w : World) {ops : Array Oper} {rest : List Oper} {o : Oper} {a : Act} {Q : Exit → Act → World → Prop} (hgd : o.guard = none) (s x : Operand) (t : TypeId)
    (ho : o.op = .call { callee := .builtin .append, args := #[s, x], argTypes := #[t, t] })
    (base : Nat) (e : TypeId) (ht : P.underlying t = some (.slice e)) (hi : (P.info? e).map (fun i => (i.zero, i.size, i.bytes)) = some (some (.int .i64 0), 1, 8))
    (v : Value) (q : List Int) (hs : a.eval s = v) (hown : w.ownsRow base e 1 v q.length (intsOf q))
    (B : Nat) (c : Int) (tt : TypeId) (hx : a.eval x = .slice (some ⟨B, 0, none⟩) 1 1) (hB : At w B #[.int .i64 c] tt) (hlen : q.length < 1073741824) (hbase : base ≤ w.heap.size)
    (h : ∀ g cap w', w'.ownsRow base e 1 (.slice (some ⟨g, 0, none⟩) (q.length + 1) cap) (q ++ [c]).length (intsOf (q ++ [c])) → w.grownBy w' v.ownBlock → (v.ownBlock = some g ∨ g = w.heap.size) → wpList P ops Q rest (a.put o.dst (.slice (some ⟨g, 0, none⟩) (q.length + 1) cap)) w') : wpList P ops Q (o :: rest) a w := by
  obtain ⟨i0, hi, hz0, hz1, hz2⟩ := info_parts hi
  refine wpList_append_lies w hgd s x t ho base e i0 _ 1 8 ht hi hz0 hz1 hz2 rfl (by decide) v q.length (intsOf q) hs hown ⟨B, 0, none⟩ 1 1 [.int .i64 c] hx rfl (World.news_of_block (cs := #[.int .i64 c]) hB) (fun u hu => by simp at hu; subst hu; rfl) (by decide) (by unfold maxLen; omega) (by omega) hbase _ rfl ?_
  intro g cap w' h1 h2 h3 _
  refine h g cap w' ?_ h2 h3
  rw [List.length_append]
  have e : intsOf (q ++ [c]) = intsOf q ++ [.int .i64 c] := by simp [intsOf]
  rw [e]
  exact h1

/-- what a row of numbers looks like -/
theorem row1 {w : World} {base : Nat} {e : TypeId} {v : Value} {l : List Int} (h : w.ownsRow base e 1 v l.length (intsOf l)) :
    ∃ a cap, v = .slice a l.length cap ∧ l.length ≤ cap ∧ cap ≤ maxLen ∧ (∀ k c, l[k]? = some c → ∃ g, a = some ⟨g, 0, none⟩ ∧ base ≤ g ∧ g < w.heap.size ∧ w.cell? ⟨g, k, none⟩ = some (.int .i64 c) ∧ (∀ i, w.frozen? ⟨g, i, none⟩ = false)) := by
  rcases h.2 with ⟨rfl, hn⟩ | ⟨g, cap, cur, rfl, hb, hg, hle, hm, hs, ht⟩
  · have : l = [] := List.eq_nil_of_length_eq_zero hn
    subst this
    exact ⟨none, 0, rfl, Nat.le_refl _, by unfold maxLen; omega, fun k c hc => by simp at hc⟩
  · refine ⟨some ⟨g, 0, none⟩, cap, rfl, hle, hm, fun k c hc => ⟨g, rfl, hb, (Array.getElem?_eq_some_iff.1 hg).1, ?_, fun i => frozen_of_row w g i cur e hg⟩⟩
    have hk : k < l.length := (List.getElem?_eq_some_iff.1 hc).1
    rw [h.cellAt k (by omega)]
    simp [intsOf, hc]

end Go.Proofs.Ytjgnheelcbkahaa.dk
