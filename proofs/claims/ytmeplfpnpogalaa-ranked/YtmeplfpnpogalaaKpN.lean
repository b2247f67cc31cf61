/-
  largestFirst: Len, Less, Swap, Push, Pop.
-/
import Derived.Test.YtmeplfpnpogalaaKpM
namespace Go.Proofs.Ytmeplfpnpogalaa.kp
open Go.RowKit dk

/-- is one ahead of the other? -/
def kl (a b : ByteArray) : Bool := Op.bytesLess a.toList b.toList
def ahead (x y : Ent) : Bool := if x.blob.size = y.blob.size then kl x.key y.key else decide (y.blob.size < x.blob.size)

theorem lfLen (w : World) (a : Option Addr) (n cap : Nat) :
    Calls Try.prog 155 #[.slice a n cap] w fun e w' => e = .returned (.int .i64 n) ∧ w' = w := by
  go_enter Try.func155, Try.ntmps155
  go_wp2
  go_ret
  exact ⟨rfl, rfl⟩

set_option maxRecDepth 100000 in
set_option maxHeartbeats 4000000 in
theorem lfLess (w : World) (base : Nat) (v : Value) (l : List Ent) (i j : Nat) (x y : Ent) (hr : w.ownsRow base 145 3 v l.length (entsV l)) (hi : l[i]? = some x) (hj : l[j]? = some y) :
    Calls Try.prog 156 #[v, .int .i64 i, .int .i64 j] w fun e w' => e = .returned (.bool (ahead x y)) ∧ Fr [] w w' := by
  have hil : i < l.length := (List.getElem?_eq_some_iff.1 hi).1
  have hjl : j < l.length := (List.getElem?_eq_some_iff.1 hj).1
  obtain ⟨a, cap, rfl, hle, hmx, hcell⟩ := row3 hr
  obtain ⟨g, rfl, hbg, hgl, d0, d1, d2, _⟩ := hcell i x hi
  obtain ⟨g', e, _, _, f0, f1, f2, _⟩ := hcell j y hj
  cases e
  have hi0 : (0 : Int) ≤ (i : Int) := by omega
  have hi1 : (i : Int) < (l.length : Int) := by omega
  have hj0 : (0 : Int) ≤ (j : Int) := by omega
  have hj1 : (j : Int) < (l.length : Int) := by omega
  clear hr hcell
  by_cases hs : x.blob.size = y.blob.size
  · have HA : Hid (ahead x y = kl x.key y.key) := if_pos hs
    go_enter Try.func156, Try.ntmps156
    go_wp2_with fail
    go_quiet (fail)
    go_wp2_with fail
    go_quiet (fail)
    go_wp2_with fail
    go_ret
    rw [HA.out]
    exact ⟨rfl, ((Fr.refl [] w).drewN _).drewN _⟩
  · have HA : Hid (ahead x y = decide (y.blob.size < x.blob.size)) := if_neg hs
    go_enter Try.func156, Try.ntmps156
    go_wp2_with fail
    go_quiet (fail)
    go_wp2_with fail
    go_quiet (fail)
    go_wp2_with fail
    go_ret
    rw [HA.out]
    exact ⟨rfl, ((Fr.refl [] w).drewN _).drewN _⟩

theorem entsV_set3 {l : List Ent} {k : Nat} {c : Ent} (hk : k < l.length) : (((entsV l).set (k * 3) (.string c.key)).set (k * 3 + 1) (.string c.blob)).set (k * 3 + 2) (.bool c.dead) = entsV (l.set k c) := by
  induction l generalizing k with
  | nil => simp at hk
  | cons y l ih =>
    cases k with
    | zero => rfl
    | succ k =>
      show (((y.vs ++ entsV l).set ((k + 1) * 3) _).set ((k + 1) * 3 + 1) _).set ((k + 1) * 3 + 2) _ = y.vs ++ entsV (l.set k c)
      rw [← ih (by simpa using hk), show (k + 1) * 3 = (k * 3) + 3 by omega, show (k * 3) + 3 + 1 = (k * 3 + 1) + 3 by omega, show (k * 3) + 3 + 2 = (k * 3 + 2) + 3 by omega]
      rfl

theorem rowPut {w : World} {base : Nat} {e : TypeId} {g n cap : Nat} {l : List Ent} (h : w.ownsRow base e 3 (.slice (some ⟨g, 0, none⟩) n cap) n (entsV l)) {k : Nat} {c : Ent} (hk : k < l.length) : (((w.setCell ⟨g, k * 3, none⟩ (.string c.key)).setCell ⟨g, k * 3 + 1, none⟩ (.string c.blob)).setCell ⟨g, k * 3 + 2, none⟩ (.bool c.dead)).ownsRow base e 3 (.slice (some ⟨g, 0, none⟩) n cap) n (entsV (l.set k c)) := by
  have := ((((h.stored (k * 3) (.string c.key)).1).stored (k * 3 + 1) (.string c.blob)).1.stored (k * 3 + 2) (.bool c.dead)).1
  rwa [entsV_set3 hk] at this
theorem Fr.put {a w : World} {g n cap : Nat} (h : Fr (own (.slice (some ⟨g, 0, none⟩) n cap)) a w) (k : Nat) (c : Ent) : Fr (own (.slice (some ⟨g, 0, none⟩) n cap)) a (((w.setCell ⟨g, k * 3, none⟩ (.string c.key)).setCell ⟨g, k * 3 + 1, none⟩ (.string c.blob)).setCell ⟨g, k * 3 + 2, none⟩ (.bool c.dead)) := by
  have hS : g ∈ own (Value.slice (some ⟨g, 0, none⟩) n cap) := by simp [own, Value.ownBlock]
  exact ((h.setCell _ (.inl hS) _).setCell _ (.inl hS) _).setCell _ (.inl hS) _

set_option maxRecDepth 100000 in
set_option maxHeartbeats 4000000 in
theorem lfSwap (w : World) (base : Nat) (v : Value) (l : List Ent) (i j : Nat) (x y : Ent) (hr : w.ownsRow base 145 3 v l.length (entsV l)) (hi : l[i]? = some x) (hj : l[j]? = some y) :
    Calls Try.prog 157 #[v, .int .i64 i, .int .i64 j] w fun e w' => e = .returned (.tuple #[]) ∧ w'.ownsRow base 145 3 v l.length (entsV ((l.set i y).set j x)) ∧ Fr (own v) w w' := by
  have hil : i < l.length := (List.getElem?_eq_some_iff.1 hi).1
  have hjl : j < l.length := (List.getElem?_eq_some_iff.1 hj).1
  have HR : Hid (w.ownsRow base 145 3 v l.length (entsV l)) := hr
  obtain ⟨a, cap, rfl, hle, hmx, hcell⟩ := row3 hr
  obtain ⟨g, rfl, hbg, hgl, d0, d1, d2, hz⟩ := hcell i x hi
  obtain ⟨g', e, _, _, f0, f1, f2, _⟩ := hcell j y hj
  cases e
  have hi0 : (0 : Int) ≤ (i : Int) := by omega
  have hi1 : (i : Int) < (l.length : Int) := by omega
  have hj0 : (0 : Int) ≤ (j : Int) := by omega
  have hj1 : (j : Int) < (l.length : Int) := by omega
  clear hr hcell
  by_cases hij : i = j
  · subst hij
    obtain rfl : x = y := Option.some.inj (hi.symm.trans hj)
    go_enter Try.func157, Try.ntmps157
    go_wp2_with fail
    go_region
    all_goals
      go_end0
      exact ⟨rfl, rowDrew (rowPut (rowPut HR.out (c := x) hil) (c := x) (by rw [List.length_set]; exact hil)), (Fr.put (Fr.put (Fr.refl _ w) i x) i x).drew⟩
  · have hji : ¬ (j = i) := fun h => hij h.symm
    have ni01 : ¬ (i * 3 = j * 3 + 1) := by omega
    have ni02 : ¬ (i * 3 = j * 3 + 2) := by omega
    have ni10 : ¬ (i * 3 + 1 = j * 3) := by omega
    have ni12 : ¬ (i * 3 + 1 = j * 3 + 2) := by omega
    have ni20 : ¬ (i * 3 + 2 = j * 3) := by omega
    have ni21 : ¬ (i * 3 + 2 = j * 3 + 1) := by omega
    have nj01 : ¬ (j * 3 = i * 3 + 1) := by omega
    have nj02 : ¬ (j * 3 = i * 3 + 2) := by omega
    have nj10 : ¬ (j * 3 + 1 = i * 3) := by omega
    have nj12 : ¬ (j * 3 + 1 = i * 3 + 2) := by omega
    have nj20 : ¬ (j * 3 + 2 = i * 3) := by omega
    have nj21 : ¬ (j * 3 + 2 = i * 3 + 1) := by omega
    go_enter Try.func157, Try.ntmps157
    go_wp2_with fail
    go_region
    all_goals
      go_end0
      exact ⟨rfl, rowDrew (rowPut (rowPut HR.out (c := y) hil) (c := x) (by rw [List.length_set]; exact hjl)), (Fr.put (Fr.put (Fr.refl _ w) i y) j x).drew⟩

theorem step_app3 {P : Program} (w : World) {ops : Array Oper} {o : Oper} {a : Act} {K : Act → World → Prop} {Q : Exit → Act → World → Prop} {E : Prop} (hgd : o.guard = none) (s x : Operand) (t : TypeId)
    (ho : o.op = .call { callee := .builtin .append, args := #[s, x], argTypes := #[t, t] })
    (base : Nat) (e : TypeId) (ht : P.underlying t = some (.slice e)) (hi : (P.info? e).map (fun i => (i.zero, i.size, i.bytes)) = some (some (.agg #[.string ByteArray.empty, .string ByteArray.empty, .bool false]), 3, 40))
    (v : Value) (q : List Ent) (hs : a.eval s = v) (hown : w.ownsRow base e 3 v q.length (entsV q))
    (B : Nat) (c : Ent) (tt : TypeId) (hx : a.eval x = .slice (some ⟨B, 0, none⟩) 1 1) (hB : At w B c.vs.toArray tt) (hlen : q.length < 1073741824) (hbase : base ≤ w.heap.size)
    (h : ∀ g cap w', w'.ownsRow base e 3 (.slice (some ⟨g, 0, none⟩) (q.length + 1) cap) (q ++ [c]).length (entsV (q ++ [c])) → w.grownBy w' v.ownBlock → (v.ownBlock = some g ∨ g = w.heap.size) → K (a.put o.dst (.slice (some ⟨g, 0, none⟩) (q.length + 1) cap)) w') :
    if Region.wanted o (yielded ops a.tmps) = true then Oper.wp P o a w K Q else E := by
  obtain ⟨i0, hi, hz0, hz1, hz2⟩ := info_parts hi
  refine step_append_lies w hgd s x t ho base e i0 _ 3 40 ht hi hz0 hz1 hz2 rfl (by decide) v q.length (entsV q) hs hown ⟨B, 0, none⟩ 1 1 c.vs hx rfl (news3 hB) (one3 c) (by decide) (by unfold maxLen; omega) (by omega) hbase _ rfl ?_
  intro g cap w' h1 h2 h3 _
  refine h g cap w' ?_ h2 h3
  rw [entsV_append, entsV_one, List.length_append]
  exact h1
/-- an entry in an interface -/
def entI (c : Ent) : Value := .iface 145 (.agg #[.string c.key, .string c.blob, .bool c.dead])

set_option maxRecDepth 100000 in
set_option maxHeartbeats 4000000 in
theorem lfPush (w : World) (base p : Nat) (v : Value) (l : List Ent) (c : Ent) (hA : At w p #[v] 143) (hr : w.ownsRow base 145 3 v l.length (entsV l)) (hl : l.length < 1073741824) (hbp : base ≤ p) :
    Calls Try.prog 159 #[.pointer (some ⟨p, 0, none⟩), entI c] w fun e w' => ∃ v', e = .returned (.tuple #[]) ∧ At w' p #[v'] 143 ∧ w'.ownsRow base 145 3 v' (l ++ [c]).length (entsV (l ++ [c])) ∧ Fr (p :: own v) w w' := by
  have HR : Hid (w.ownsRow base 145 3 v l.length (entsV l)) := hr
  obtain ⟨a, cap, rfl, hle, hmx, hcell⟩ := row3 hr
  have c0 : w.cell? ⟨p, 0, none⟩ = some (.slice a l.length cap) := hA.cell 0
  have hpl := hA.lt
  have hne := row_ne hA (by decide) hr
  clear hr hcell
  unfold entI
  have hTA : ∀ W : World, Sem.run Try.prog (Instr.typeAssert (.iface 145 (.agg #[.string c.key, .string c.blob, .bool c.dead])) 20 145 false) W = .ok (.agg #[.string c.key, .string c.blob, .bool c.dead]) W := fun W => by kernel_rfl
  go_enter Try.func159, Try.ntmps159
  go_wp2_with fail
  go_region_law (refine step_app3 _ rfl (.tmp 7) (.tmp 10) 143 rfl base 145 Try.underlying143 Try.infoEntry (.slice a l.length cap) l ?_ ?_ w.heap.size c 145 ?_ ?_ hl ?_ ?_; (· simp [Act.eval]); (· exact rowDrew (HR.out.alloc _)); (· simp [Act.eval]); (· exact (at_alloc w _ _).drew); (· rw [World.size_drew, World.size_alloc]; omega); intro g6 cap6 w6 hown6 hgrow6 hat6; have h6 := (hA.alloc (.cells c.vs.toArray 145)).drew.grown hgrow6 hne; have hf6 := h6.frozen; have k0 : w6.cell? ⟨p, 0, none⟩ = some (.slice a l.length cap) := h6.cell 0)
  all_goals
    go_end0
    have hF : Fr (p :: own (Value.slice a l.length cap)) w w6 := ((Fr.refl _ w).alloc _).drew.trans ((Fr.ofGrown hgrow6).mono (fun g _ hg => List.mem_cons_of_mem p hg))
    exact ⟨_, rfl, h6.set 0 _, rowSetOther hown6 p 0 (row_ne h6 (by decide) hown6) _, hF.setCell ⟨p, 0, none⟩ (.inl (by simp)) _⟩

set_option maxRecDepth 100000 in
set_option maxHeartbeats 4000000 in
theorem lfPop (w : World) (base p : Nat) (v : Value) (l : List Ent) (c : Ent) (hA : At w p #[v] 143) (hr : w.ownsRow base 145 3 v (l ++ [c]).length (entsV (l ++ [c]))) (hl : l.length < 1073741824) :
    Calls Try.prog 158 #[.pointer (some ⟨p, 0, none⟩)] w fun e w' => ∃ v', e = .returned (entI c) ∧ At w' p #[v'] 143 ∧ w'.ownsRow base 145 3 v' l.length (entsV l) ∧ v'.ownBlock = v.ownBlock ∧ Fr [p] w w' := by
  have hlast : (l ++ [c])[l.length]? = some c := by simp
  have hr0 := hr
  rcases hr.2 with ⟨_, hn⟩ | ⟨g, cap, cur, rfl, hbg, hg, hle, hmx, hcs, hct⟩
  · simp at hn
  obtain ⟨_, _, ev, _, _, hcell⟩ := row3 hr
  cases ev
  obtain ⟨g', eg, _, hgl, d0, d1, d2, _⟩ := hcell _ c hlast
  cases eg
  have hlen : (l ++ [c]).length = l.length + 1 := by simp
  rw [hlen] at hle hct hr0 hA ⊢
  have c0 : w.cell? ⟨p, 0, none⟩ = some (.slice (some ⟨g, 0, none⟩) (l.length + 1) cap) := hA.cell 0
  have hz := hA.frozen
  have hpl := hA.lt
  have hgp : g ≠ p := fun e => by
    have h1 : w.heap[p]? = some (.cells #[.slice (some ⟨g, 0, none⟩) (l.length + 1) cap] 143 (0, 0)) := hA
    rw [← e, hg] at h1
    cases h1
  have hi0 : (0 : Int) ≤ (l.length : Int) := by omega
  have HR : Hid (∀ W : World, W.heap[g]? = some (.cells cur 145 (0, 0)) → W.ownsRow base 145 3 (.slice (some ⟨g, 0, none⟩) l.length cap) l.length (entsV l)) := by
    intro W hW
    refine ⟨entsV_length l, .inr ⟨g, cap, cur, rfl, hbg, hW, by omega, hmx, hcs, ?_⟩⟩
    have e1 : cur.toList.take (l.length * 3) = (cur.toList.take ((l.length + 1) * 3)).take (l.length * 3) := by rw [List.take_take, Nat.min_eq_left (by omega)]
    rw [e1, hct, entsV_append, List.take_left' (entsV_length l)]
  unfold entI
  clear hr hr0 hcell hct hcs hlast
  go_enter Try.func158, Try.ntmps158
  go_wp2_with fail
  go_ret
  refine ⟨_, rfl, (hA.set 0 _).alloc _, HR.out _ ?_, rfl, (fr_set _ _ _ (Fr.refl _ _)).alloc _⟩
  exact At.alloc (At.setOther (show At w g cur 145 from hg) hgp _) _
end Go.Proofs.Ytmeplfpnpogalaa.kp
