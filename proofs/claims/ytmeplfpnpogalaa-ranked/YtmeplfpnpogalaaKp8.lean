/-
  The shelf: Delete, Keys.
-/
import Derived.Test.YtmeplfpnpogalaaKp7
namespace Go.Proofs.Ytmeplfpnpogalaa.kp
open Go.RowKit dk

theorem entsV_set {l : List Ent} {k : Nat} {c : Ent} (hc : l[k]? = some c) (x : ByteArray) : ((entsV l).set (k * 3 + 1) (.string x)).set (k * 3 + 2) (.bool true) = entsV (l.set k ⟨c.key, x, true⟩) := by
  induction l generalizing k with
  | nil => simp at hc
  | cons y l ih =>
    cases k with
    | zero =>
      simp only [List.getElem?_cons_zero, Option.some.injEq] at hc
      subst hc
      rfl
    | succ k =>
      have hc' : l[k]? = some c := by simpa using hc
      show ((y.vs ++ entsV l).set ((k + 1) * 3 + 1) _).set ((k + 1) * 3 + 2) _ = y.vs ++ entsV (l.set k ⟨c.key, x, true⟩)
      rw [← ih hc', show (k + 1) * 3 + 1 = (k * 3 + 1) + 3 by omega, show (k + 1) * 3 + 2 = (k * 3 + 2) + 3 by omega]
      rfl

set_option maxHeartbeats 4000000 in
theorem shDelete (w : World) (base b off : Nat) (v : Value) (l : List Ent) (k : ByteArray) (e : Ent) (cs : Array Value) (t : TypeId) (hA : At w b cs t) (ht : t ≠ 145) (hcs : cs[off]? = some v) (hr : w.ownsRow base 145 3 v l.length (entsV l)) (hm : Mono l k) (hl : l.length < 1073741824) (he : l[pos l k]? = some e) :
    Calls Try.prog 77 #[.pointer (some ⟨b, off, none⟩), .string k] w fun r w' => r = .returned (.tuple #[]) ∧ At w' b cs t ∧ w'.ownsRow base 145 3 v (l.set (pos l k) ⟨e.key, ByteArray.empty, true⟩).length (entsV (l.set (pos l k) ⟨e.key, ByteArray.empty, true⟩)) ∧ Fr (own v) w w' := by
  have hc : w.cell? ⟨b, off, none⟩ = some v := (hA.cell off).trans hcs
  have C1 := place w base b off v l k hc hr hm hl
  have hne := row_ne hA ht hr
  have hpl : pos l k < l.length := (List.getElem?_eq_some_iff.1 he).1
  obtain ⟨a, cap, rfl, hle, hmx, hcell⟩ := row3 hr
  obtain ⟨g, rfl, hbg, hgl, d0, d1, d2, hfz⟩ := hcell _ e he
  clear hcell hm
  go_enter Try.func77, Try.ntmps77
  go_wp2_with fail
  refine C1.mono ?_
  rintro e' w1 ⟨rfl, hf1⟩
  have hA1 := hf1.at hA (by simp)
  have hr1 := hf1.row hr (by simp)
  have hc1 : w1.cell? ⟨b, off, none⟩ = some (.slice (some ⟨g, 0, none⟩) l.length cap) := (hA1.cell off).trans hcs
  have hz1 := hA1.frozen
  have hgb : g ≠ b := fun h => hne (by rw [h]; rfl)
  rw [← hf1.below.cell (p := ⟨g, pos l k * 3, none⟩) hgl] at d0
  rw [← hf1.below.cell (p := ⟨g, pos l k * 3 + 1, none⟩) hgl] at d1
  rw [← hf1.below.cell (p := ⟨g, pos l k * 3 + 2, none⟩) hgl] at d2
  have hfz1 : ∀ i, w1.frozen? ⟨g, i, none⟩ = false := fun i => (hf1.below.frozen (p := ⟨g, i, none⟩) hgl).trans (hfz i)
  clear hA hr hc C1 hne hfz
  go_wp2_with fail
  go_region
  all_goals
    go_end0
    have hB1 := (hA1.setOther (b' := g) (i := pos l k * 3 + 1) (fun h => hgb h.symm) (.string ByteArray.empty)).setOther (b' := g) (i := pos l k * 3 + 2) (fun h => hgb h.symm) (.bool true)
    have hR := (((hr1.stored (pos l k * 3 + 1) (.string ByteArray.empty)).1).stored (pos l k * 3 + 2) (.bool true)).1
    rw [entsV_set he ByteArray.empty] at hR
    have hS : g ∈ own (Value.slice (some ⟨g, 0, none⟩) l.length cap) := by simp [own, Value.ownBlock]
    refine ⟨rfl, hB1, ?_, ((hf1.nil.setCell _ (.inl hS) _).setCell _ (.inl hS) _).drew⟩
    rw [List.length_set]
    exact hR

/-- strings in a row -/
def strsV (l : List ByteArray) : List Value := l.map .string
theorem Try.infoStr : (Try.prog.info? 9).map (fun i => (i.zero, i.size, i.bytes)) = some (some (.string ByteArray.empty), 1, 16) := by kernel_rfl
theorem wpList_appS {P : Program} (w : World) {ops : Array Oper} {rest : List Oper} {o : Oper} {a : Act} {Q : Exit → Act → World → Prop} (hgd : o.guard = none) (s x : Operand) (t : TypeId)
    (ho : o.op = .call { callee := .builtin .append, args := #[s, x], argTypes := #[t, t] })
    (base : Nat) (e : TypeId) (ht : P.underlying t = some (.slice e)) (hi : (P.info? e).map (fun i => (i.zero, i.size, i.bytes)) = some (some (.string ByteArray.empty), 1, 16))
    (v : Value) (q : List ByteArray) (hs : a.eval s = v) (hown : w.ownsRow base e 1 v q.length (strsV q))
    (B : Nat) (c : ByteArray) (tt : TypeId) (hx : a.eval x = .slice (some ⟨B, 0, none⟩) 1 1) (hB : At w B #[.string c] tt) (hlen : q.length < 1073741824) (hbase : base ≤ w.heap.size)
    (h : ∀ g cap w', w'.ownsRow base e 1 (.slice (some ⟨g, 0, none⟩) (q.length + 1) cap) (q ++ [c]).length (strsV (q ++ [c])) → w.grownBy w' v.ownBlock → (v.ownBlock = some g ∨ g = w.heap.size) → wpList P ops Q rest (a.put o.dst (.slice (some ⟨g, 0, none⟩) (q.length + 1) cap)) w') : wpList P ops Q (o :: rest) a w := by
  obtain ⟨i0, hi, hz0, hz1, hz2⟩ := info_parts hi
  refine wpList_append_lies w hgd s x t ho base e i0 _ 1 16 ht hi hz0 hz1 hz2 rfl (by decide) v q.length (strsV q) hs hown ⟨B, 0, none⟩ 1 1 [.string c] hx rfl (World.news_of_block (cs := #[.string c]) hB) (fun u hu => by simp at hu; subst hu; rfl) (by decide) (by unfold maxLen; omega) (by omega) hbase _ rfl ?_
  intro g cap w' h1 h2 h3 _
  refine h g cap w' ?_ h2 h3
  rw [List.length_append]
  have e : strsV (q ++ [c]) = strsV q ++ [.string c] := by simp [strsV]
  rw [e]
  exact h1
theorem rowS {w : World} {base : Nat} {e : TypeId} {v : Value} {l : List ByteArray} (h : w.ownsRow base e 1 v l.length (strsV l)) :
    ∃ a cap, v = .slice a l.length cap ∧ l.length ≤ cap ∧ cap ≤ maxLen ∧ (∀ k c, l[k]? = some c → ∃ g, a = some ⟨g, 0, none⟩ ∧ base ≤ g ∧ g < w.heap.size ∧ w.cell? ⟨g, k, none⟩ = some (.string c) ∧ (∀ i, w.frozen? ⟨g, i, none⟩ = false)) := by
  rcases h.2 with ⟨rfl, hn⟩ | ⟨g, cap, cur, rfl, hb, hg, hle, hm, hs, ht⟩
  · have : l = [] := List.eq_nil_of_length_eq_zero hn
    subst this
    exact ⟨none, 0, rfl, Nat.le_refl _, by unfold maxLen; omega, fun k c hc => by simp at hc⟩
  · refine ⟨some ⟨g, 0, none⟩, cap, rfl, hle, hm, fun k c hc => ⟨g, rfl, hb, (Array.getElem?_eq_some_iff.1 hg).1, ?_, fun i => frozen_of_row w g i cur e hg⟩⟩
    have hk : k < l.length := (List.getElem?_eq_some_iff.1 hc).1
    rw [h.cellAt k (by omega)]
    simp [strsV, hc]
end Go.Proofs.Ytmeplfpnpogalaa.kp
