/-
  spoil of package disk.
-/
import Derived.Test.YtjgnheelcbkahaaDkD
import Derived.Laws.AppendOwnNone
namespace Go.Proofs.Ytjgnheelcbkahaa.dk
open Go.RowKit

def spo (dev blk : Int) (c : Cel) : Cel := if c.is dev blk then { c with sp := true } else c
/-- what spoil makes -/
def spoilL (l : List Cel) (dev blk : Int) : List Cel := l.map (spo dev blk)
/-- half way -/
def spoilTo (l : List Cel) (dev blk : Int) (k : Nat) : List Cel := (l.take k).map (spo dev blk) ++ l.drop k

theorem spoilTo_length (l : List Cel) (dev blk : Int) (k : Nat) : (spoilTo l dev blk k).length = l.length := by
  simp [spoilTo]; omega
theorem spoilTo_zero (l : List Cel) (dev blk : Int) : spoilTo l dev blk 0 = l := by simp [spoilTo]
theorem spoilTo_all (l : List Cel) (dev blk : Int) : spoilTo l dev blk l.length = spoilL l dev blk := by simp [spoilTo, spoilL]
theorem spoilTo_get {l : List Cel} {k : Nat} {c : Cel} (dev blk : Int) (hc : l[k]? = some c) : (spoilTo l dev blk k)[k]? = some c := by
  have hk : k < l.length := (List.getElem?_eq_some_iff.1 hc).1
  unfold spoilTo
  rw [List.getElem?_append_right (by simp; omega)]
  simp only [List.length_map, List.length_take, Nat.min_eq_left (Nat.le_of_lt hk), Nat.sub_self, List.getElem?_drop, Nat.add_zero]
  exact hc
theorem spoilTo_succ {l : List Cel} {k : Nat} {c : Cel} (dev blk : Int) (hc : l[k]? = some c) : spoilTo l dev blk (k + 1) = (spoilTo l dev blk k).set k (spo dev blk c) := by
  have hk : k < l.length := (List.getElem?_eq_some_iff.1 hc).1
  have hcc := (List.getElem?_eq_some_iff.1 hc).2
  unfold spoilTo
  rw [List.set_append_right _ _ (by simp; omega), List.take_add_one, hc, List.drop_eq_getElem_cons hk, hcc]
  simp [Nat.min_eq_left (Nat.le_of_lt hk)]

theorem set_same {l : List Cel} {k : Nat} {c : Cel} (hc : l[k]? = some c) : l.set k c = l := by
  have hk : k < l.length := (List.getElem?_eq_some_iff.1 hc).1
  have hcc := (List.getElem?_eq_some_iff.1 hc).2
  rw [← hcc]; simp

theorem cellsOf_set {l : List Cel} {k : Nat} {c : Cel} (hc : l[k]? = some c) : (cellsOf l).set (k * 4 + 3) (.bool true) = cellsOf (l.set k { c with sp := true }) := by
  induction l generalizing k with
  | nil => simp at hc
  | cons x l ih =>
    cases k with
    | zero =>
      simp only [List.getElem?_cons_zero, Option.some.injEq] at hc
      subst hc
      show (x.vs ++ cellsOf l).set 3 _ = ({ x with sp := true } : Cel).vs ++ cellsOf l
      rfl
    | succ k =>
      have hc' : l[k]? = some c := by simpa using hc
      show (x.vs ++ cellsOf l).set ((k + 1) * 4 + 3) _ = x.vs ++ cellsOf (l.set k { c with sp := true })
      rw [← ih hc', show (k + 1) * 4 + 3 = (k * 4 + 3) + 4 by omega]
      rfl

theorem one4s (l : List Cel) : ∀ u ∈ cellsOf l, u.oneCell' = true := by
  intro u hu
  simp only [cellsOf, List.mem_flatMap] at hu
  obtain ⟨c, _, h⟩ := hu
  exact one4 c u h

/-- append(nil, l...): a copy of one's own -/
theorem wpList_copy4 {P : Program} (w : World) {ops : Array Oper} {rest : List Oper} {o : Oper} {a : Act} {Q : Exit → Act → World → Prop} (hgd : o.guard = none) (s x : Operand) (t : TypeId)
    (ho : o.op = .call { callee := .builtin .append, args := #[s, x], argTypes := #[t, t] })
    (e : TypeId) (ht : P.underlying t = some (.slice e)) (hi : (P.info? e).map (fun i => (i.zero, i.size, i.bytes)) = some (some (.agg #[.int .i64 0, .int .i64 0, .string ByteArray.empty, .bool false]), 4, 40))
    (hs : a.eval s = .slice none 0 0) (base g cap : Nat) (l : List Cel) (hx : a.eval x = .slice (some ⟨g, 0, none⟩) l.length cap) (hr : w.ownsRow base e 4 (.slice (some ⟨g, 0, none⟩) l.length cap) l.length (cellsOf l)) (hlen : l.length < 1073741824)
    (h : ∀ v' w', w'.ownsRow w.heap.size e 4 v' l.length (cellsOf l) → Fr [] w w' → wpList P ops Q rest (a.put o.dst v') w') : wpList P ops Q (o :: rest) a w := by
  obtain ⟨i0, hi, hz0, hz1, hz2⟩ := info_parts hi
  refine wpList_append_own w hgd s x t ho w.heap.size e i0 _ 4 40 ht hi hz0 hz1 hz2 rfl (by decide) _ 0 [] hs (World.ownsRow_nil _ _ _ _) ⟨g, 0, none⟩ l.length cap (cellsOf l) hx hr.1 (hr.cells (g := g) rfl) (one4s l) (by unfold maxLen; omega) (by omega) (Nat.le_refl _) ?_
  intro v' w' h1 h2 _
  refine h v' w' ?_ ((Fr.refl [] w).grown h2 (fun k hk => by cases hk))
  rw [Nat.zero_add, List.nil_append] at h1
  exact h1

/-- the same of whatever row, nil too; and what the copy looks like -/
theorem wpList_copyAny4 {P : Program} (w : World) {ops : Array Oper} {rest : List Oper} {o : Oper} {a : Act} {Q : Exit → Act → World → Prop} (hgd : o.guard = none) (s x : Operand) (t : TypeId)
    (ho : o.op = .call { callee := .builtin .append, args := #[s, x], argTypes := #[t, t] })
    (e : TypeId) (ht : P.underlying t = some (.slice e)) (hi : (P.info? e).map (fun i => (i.zero, i.size, i.bytes)) = some (some (.agg #[.int .i64 0, .int .i64 0, .string ByteArray.empty, .bool false]), 4, 40))
    (hs : a.eval s = .slice none 0 0) (base : Nat) (l : List Cel) (v : Value) (hx : a.eval x = v) (hr : w.ownsRow base e 4 v l.length (cellsOf l)) (hlen : l.length < 1073741824)
    (h : ∀ a' cap' w', w'.ownsRow w.heap.size e 4 (.slice a' l.length cap') l.length (cellsOf l) → Fr [] w w' → wpList P ops Q rest (a.put o.dst (.slice a' l.length cap')) w') : wpList P ops Q (o :: rest) a w := by
  rcases hr.2 with ⟨rfl, hn⟩ | ⟨g, cap, cur, rfl, hb, hg, hle, hmx, hcs, ht2⟩
  · have hl : l = [] := List.eq_nil_of_length_eq_zero hn
    subst hl
    obtain ⟨i0, hi, hz0, hz1, hz2⟩ := info_parts hi
    exact wpList_append_own_none hgd s x t ho base e i0 4 ht hi (.slice none 0 0) 0 [] hs (World.ownsRow_nil _ _ _ _) hx (h none 0 w (World.ownsRow_nil _ _ _ _) (Fr.refl _ _))
  · refine wpList_copy4 w hgd s x t ho e ht hi hs base g cap l hx hr hlen ?_
    intro v' w' h1 h2
    obtain ⟨a1, cap1, rfl, _⟩ := row4' h1
    exact h a1 cap1 w' h1 h2

set_option maxHeartbeats 2000000 in
theorem spoil_any (w : World) (base : Nat) (v : Value) (l : List Cel) (dev blk : Int) (hr : w.ownsRow base 70 4 v l.length (cellsOf l)) (hm : l.length < 1073741824) :
    Calls Try.prog 50 #[v, .int .i64 dev, .int .i64 blk] w fun e w' => ∃ v', e = .returned v' ∧ w'.ownsRow w.heap.size 70 4 v' (spoilL l dev blk).length (cellsOf (spoilL l dev blk)) ∧ Fr [] w w' := by
  obtain ⟨i0, hi, hz0, hz1, hz2⟩ := info_parts Try.infoCell
  rcases hr.2 with ⟨rfl, hn⟩ | ⟨g, cap, cur, rfl, hb, hg, hle, hmx, hs, ht⟩
  · have hl : l = [] := List.eq_nil_of_length_eq_zero hn
    subst hl
    clear hr hn hm
    go_enter Try.func50, Try.ntmps50
    go_wp2_with fail
    go_loopw [13] (fun k wr => k = .int .i64 0 ∧ Fr [] w wr) (fun _ _ => 0)
    case atStart => exact ⟨rfl, Fr.refl _ _⟩
    case round =>
      obtain ⟨rfl, hw⟩ := hrel
      go_wp2_with fail
      go_ret
      exact ⟨_, rfl, World.ownsRow_nil _ _ _ _, hw⟩
  · clear hi hz0 hz1 hz2 hg hs ht hle hmx
    go_enter Try.func50, Try.ntmps50
    go_wp2_with (at_builtin; refine wpList_copy4 _ rfl (.const (.slice none 0 0)) (.tmp 9) 63 rfl 70 Try.underlying63 Try.infoCell rfl base g cap l rfl hr hm ?_; intro v1 w1 hown1 hfr1; obtain ⟨a1, cap1, hv1, hle1, hmx1, hcell1⟩ := row4' hown1; clear hcell1; subst hv1)
    go_loopw [13] (fun x wr => ∃ k : Nat, x = .int .i64 k ∧ k ≤ l.length ∧ wr.ownsRow w.heap.size 70 4 (.slice a1 l.length cap1) (spoilTo l dev blk k).length (cellsOf (spoilTo l dev blk k)) ∧ Fr [] w wr) (fun x _ => l.length - (intOf x).toNat)
    case atStart => exact ⟨0, rfl, Nat.zero_le _, by rw [spoilTo_zero]; exact hown1, hfr1⟩
    case round =>
      obtain ⟨k, rfl, hk, hown, hw⟩ := hrel
      have HL : Hid ((spoilTo l dev blk k).length = l.length) := spoilTo_length l dev blk k
      by_cases hlt : k < l.length
      · obtain ⟨c, hc⟩ : ∃ c, l[k]? = some c := ⟨l[k], List.getElem?_eq_getElem hlt⟩
        have hg1 := spoilTo_get dev blk hc
        obtain ⟨a2, cap2, e2, _, _, hcell⟩ := row4' hown
        obtain ⟨g1, e3, hbg, hgl, d0, d1, d2, d3⟩ := hcell k c hg1
        have e4 : a1 = some ⟨g1, 0, none⟩ := by
          simp only [Value.slice.injEq] at e2
          rw [e2.1, e3]
        subst e4
        have hfz : wr.frozen? ⟨g1, k * 4 + 3, none⟩ = false := by
          rw [HL.out] at hown
          exact hown.frozenAt _
        have HS : Hid (spoilTo l dev blk (k + 1) = (spoilTo l dev blk k).set k (spo dev blk c)) := spoilTo_succ dev blk hc
        have HG : Hid ((spoilTo l dev blk k)[k]? = some c) := hg1
        generalize spoilTo l dev blk k = q at *
        clear hc hcell e2 e3 hg1
        by_cases h1 : c.dev = dev ∧ c.blk = blk
        · obtain ⟨h1, h2⟩ := h1
          have e5 : (c.dev == dev) = true := by simpa using h1
          have e6 : (c.blk == blk) = true := by simpa using h2
          have HS2 : Hid (spoilTo l dev blk (k + 1) = q.set k { c with sp := true }) := by show _ = _; rw [HS.out]; simp [spo, Cel.is, e5, e6]
          clear h1 h2 HS
          go_wp2_with fail
          refine ⟨⟨k + 1, by go_num, hlt, ?_, hw.setCell _ (.inr hbg) _⟩, by simp [intOf]; omega⟩
          rw [HS2.out, List.length_set, ← cellsOf_set HG.out]
          rw [HL.out] at hown ⊢
          exact (hown.stored (k * 4 + 3) (.bool true)).1
        · have HS2 : Hid (spoilTo l dev blk (k + 1) = q) := by
            show _ = _
            rw [HS.out]
            have : c.is dev blk = false := by
              simp only [Cel.is, Bool.and_eq_false_iff, beq_eq_false_iff_ne]
              by_cases h2 : c.dev = dev
              · exact .inr (fun h3 => h1 ⟨h2, h3⟩)
              · exact .inl h2
            simp only [spo, this]
            exact set_same HG.out
          clear HS
          by_cases h2 : c.dev = dev
          · have e5 : (c.dev == dev) = true := by simpa using h2
            have e6 : (c.blk == blk) = false := by simpa using fun h3 => h1 ⟨h2, h3⟩
            clear h1 h2
            go_wp2_with fail
            exact ⟨⟨k + 1, by go_num, hlt, by rw [HS2.out]; exact hown, hw⟩, by simp [intOf]; omega⟩
          · have e5 : (c.dev == dev) = false := by simpa using h2
            clear h1 h2
            go_wp2_with fail
            exact ⟨⟨k + 1, by go_num, hlt, by rw [HS2.out]; exact hown, hw⟩, by simp [intOf]; omega⟩
      · obtain rfl : k = l.length := by omega
        have HA : Hid (spoilTo l dev blk l.length = spoilL l dev blk) := spoilTo_all l dev blk
        go_wp2_with fail
        go_ret
        refine ⟨_, rfl, ?_, hw⟩
        rw [← HA.out]
        exact hown

end Go.Proofs.Ytjgnheelcbkahaa.dk
