/-
  PLAIN, OVER ANY PROGRAM: rows of one number again and again, and append to one of several slices of one array.
-/
import Derived.Test.YtjgnheelcbkahaaDk
namespace Go.Proofs.Ytjgnheelcbkahaa.dk
open Go.RowKit

/-- k times the number x -/
def Uni (w : World) (base : Nat) (e : TypeId) (u : Value) (k : Nat) (x : Int) : Prop := w.ownsRow base e 1 u k (List.replicate k (.int .i64 x))

theorem take_over (cur : List Value) (y : Value) (n m k : Nat) (hk : cur.take k = List.replicate k y) (hfit : n + m ≤ cur.length) :
    (cur.take n ++ List.replicate m y ++ cur.drop (n + m)).take k = List.replicate k y := by
  apply List.ext_getElem?
  intro j
  by_cases hj : j < k
  · have h1 : cur[j]? = some y := by
      have h2 : (cur.take k)[j]? = (List.replicate k y)[j]? := by rw [hk]
      rw [List.getElem?_take, if_pos hj, List.getElem?_replicate, if_pos hj] at h2
      exact h2
    rw [List.getElem?_take, if_pos hj, List.getElem?_replicate, if_pos hj, List.append_assoc]
    by_cases c1 : j < n
    · rw [List.getElem?_append_left (by simp; omega), List.getElem?_take, if_pos c1, h1]
    · rw [List.getElem?_append_right (by simp; omega)]
      simp only [List.length_take, Nat.min_eq_left (show n ≤ cur.length by omega)]
      by_cases c2 : j - n < m
      · rw [List.getElem?_append_left (by simp; omega), List.getElem?_replicate, if_pos c2]
      · rw [List.getElem?_append_right (by simp; omega)]
        simp only [List.length_replicate, List.getElem?_drop]
        rw [show n + m + (j - n - m) = j by omega, h1]
  · rw [List.getElem?_take, if_neg hj, List.getElem?_replicate, if_neg hj]

theorem run_append_uni {P : Program} (w : World) (t ty : TypeId) (base : Nat) (e : TypeId) (ht : P.underlying t = some (.slice e)) (hi : (P.info? e).map (fun i => (i.zero, i.size, i.bytes)) = some (some (.int .i64 0), 1, 8))
    (v : Value) (n : Nat) (x : Int) (hown : Uni w base e v n x) (B m : Nat) (tt : TypeId) (hB : At w B (List.replicate m (.int .i64 x)).toArray tt) (hm : 0 < m) (hlen : n + m < 1073741824) (hbase : base ≤ w.heap.size) :
    ∃ g cap w', (Builtin.append_ #[t, t] ty #[v, .slice (some ⟨B, 0, none⟩) m m]).run P w = .ok (.slice (some ⟨g, 0, none⟩) (n + m) cap) w' ∧ Uni w' base e (.slice (some ⟨g, 0, none⟩) (n + m) cap) (n + m) x ∧ w.grownBy w' v.ownBlock ∧ (v.ownBlock = some g ∨ g = w.heap.size) ∧ (∀ u k, Uni w base e u k x → Uni w' base e u k x) := by
  obtain ⟨i0, hi, hz0, hz1, hz2⟩ := info_parts hi
  have hn1 : ∀ j u, (List.replicate m (Value.int .i64 x))[j]? = some u → w.cell? ((⟨B, 0, none⟩ : Addr).add j) = some u := by
    have := World.news_of_block hB
    simpa using this
  have h1c : ∀ u ∈ List.replicate m (Value.int .i64 x), u.oneCell' = true := fun u hu => by rw [(List.mem_replicate.1 hu).2]; rfl
  have hl : (List.replicate m (Value.int .i64 x)).length = m * 1 := by simp
  obtain ⟨g, cap, w', hr, h2, h3, h4, _⟩ := run_append_lies (P := P) w t ty base e i0 _ 1 8 ht hi hz0 hz1 hz2 rfl (by decide) v n _ hown ⟨B, 0, none⟩ m m _ hl hn1 h1c hm (by unfold maxLen; omega) (by omega) hbase _ rfl
  refine ⟨g, cap, w', hr, ?_, h3, h4, ?_⟩
  · unfold Uni
    rw [← List.replicate_append_replicate]
    exact h2
  · intro u k hu
    rcases hown.2 with ⟨rfl, rfl⟩ | ⟨g0, cap0, cur, rfl, hb0, hg0, hle0, hm0, hs0, ht0⟩
    · exact hu.kept h3 (by cases hv : u.ownBlock <;> simp [Value.ownBlock])
    · by_cases hroom : n + m ≤ cap0
      · have hfit : n * i0.size + (List.replicate m (Value.int .i64 x)).length ≤ cur.size := by rw [hz1, hs0]; simp; omega
        have hr2 := run_append_room (P := P) w t ty e i0 ht hi g0 n cap0 cur hg0 ⟨B, 0, none⟩ m m (List.replicate m (Value.int .i64 x)) (by rw [hz1]; simp) hn1 h1c hroom hfit
        rw [hr] at hr2
        injection hr2 with _ hw
        subst hw
        refine ⟨hu.1, ?_⟩
        rcases hu.2 with hnil | ⟨gu, capu, curu, rfl, hbu, hgu, hleu, hmu, hsu, htu⟩
        · exact .inl hnil
        · by_cases hgg : gu = g0
          · subst hgg
            rw [hg0] at hgu
            injection hgu with hgu
            injection hgu with hcc
            subst hcc
            refine .inr ⟨gu, capu, _, rfl, hbu, setRow_heap w gu cur _ e _ hg0, hleu, hmu, ?_, ?_⟩
            · rw [hz1] at hfit
              simp only [hz1, List.size_toArray, List.length_append, List.length_take, List.length_drop, List.length_replicate, Array.length_toList] at hfit ⊢
              omega
            · rw [hz1]
              simp only [Nat.mul_one, List.length_replicate] at htu ⊢
              exact take_over cur.toList _ n m k htu (by rw [Array.length_toList]; omega)
          · exact .inr ⟨gu, capu, curu, rfl, hbu, (setRow_other w g0 gu _ hgg).trans hgu, hleu, hmu, hsu, htu⟩
      · have holds := hown.cells (g := g0) rfl
        have hr2 := run_append_grow (P := P) w t ty e i0 _ ht hi hz0 ⟨g0, 0, none⟩ n cap0 _ (by rw [hz1]; exact hown.1) holds ⟨B, 0, none⟩ m m (List.replicate m (Value.int .i64 x)) (by rw [hz1]; simp) hn1 (by omega) (by omega) (growslice_fits (by omega) (by rw [hz2]; omega))
        rw [hr] at hr2
        injection hr2 with _ hw
        subst hw
        have hg1 : w.grownBy (w.drew.alloc (.cells ((List.replicate n (Value.int .i64 x)).toArray ++ (List.replicate m (Value.int .i64 x)).toArray ++ Builtin.zeroCells (Value.int IntKind.i64 0).cells (grownCap w (n + m) cap0 e - (n + m))) e)) none :=
          ⟨rfl, rfl, rfl, by simp, fun j hj _ => Below.heap_alloc w.drew _ j hj⟩
        exact World.ownsRow.kept hu hg1 (by cases hv : u.ownBlock <;> simp)

/-- at the operation -/
theorem wpList_uni {P : Program} (w : World) {ops : Array Oper} {rest : List Oper} {o : Oper} {a : Act} {Q : Exit → Act → World → Prop} (hgd : o.guard = none) (s x : Operand) (t : TypeId)
    (ho : o.op = .call { callee := .builtin .append, args := #[s, x], argTypes := #[t, t] })
    (base : Nat) (e : TypeId) (ht : P.underlying t = some (.slice e)) (hi : (P.info? e).map (fun i => (i.zero, i.size, i.bytes)) = some (some (.int .i64 0), 1, 8))
    (v : Value) (n : Nat) (y : Int) (hs : a.eval s = v) (hown : Uni w base e v n y) (B m : Nat) (tt : TypeId) (hx : a.eval x = .slice (some ⟨B, 0, none⟩) m m) (hB : At w B (List.replicate m (.int .i64 y)).toArray tt) (hm : 0 < m) (hlen : n + m < 1073741824) (hbase : base ≤ w.heap.size)
    (h : ∀ g cap w', Uni w' base e (.slice (some ⟨g, 0, none⟩) (n + m) cap) (n + m) y → w.grownBy w' v.ownBlock → (v.ownBlock = some g ∨ g = w.heap.size) → (∀ u k, Uni w base e u k y → Uni w' base e u k y) → wpList P ops Q rest (a.put o.dst (.slice (some ⟨g, 0, none⟩) (n + m) cap)) w') : wpList P ops Q (o :: rest) a w := by
  refine wpList_plain hgd fun K hK => ?_
  obtain ⟨g, cap, w', hr, h2, h3, h4, h5⟩ := run_append_uni (P := P) w t o.type base e ht hi v n y hown B m tt hB hm hlen hbase
  unfold Oper.wp execOp
  simp only [ho, resolve, invoke, builtin, Sem.run_bind, Sem.run_pure, Result.andThen_ok, List.map_toArray, List.map_cons, List.map_nil, hs, hx, hr]
  exact hK _ _ (h g cap w' h2 h3 h4 h5)

end Go.Proofs.Ytjgnheelcbkahaa.dk
