/-
  shelf.act.
-/
import Derived.Test.YtjgnheelcbkahaaDkY
import Derived.Deep.RegionHeld3
namespace Go.Proofs.Ytjgnheelcbkahaa.dk
open Go.RowKit

section
variable (w : World) (base bS bD N : Nat) (vL : Value) (n : Int) (vI vN : Value) (G : List Grp) (E : List Ent) (tag : Nat → Nat)

set_option maxRecDepth 100000 in
set_option maxHeartbeats 8000000 in
theorem act_new (h : Cx w base bS bD N vL n vI vN G E tag) (hN : N < 16777216) (on a b : Int) (s : ByteArray) :
    Calls Try.prog 7 #[.pointer (some ⟨bS, 0, none⟩), .agg #[.int .i64 1, .int .i64 on, .int .i64 a, .int .i64 b, .string s]] w fun ev w' => ev = .returned (.bool true) ∧ St w' base bS bD (N + 1) ∧ Below base w w' := by
  have HX : Hid (Cx w base bS bD N vL n vI vN G E tag) := h
  have hEl := h.el
  clear h
  go_enter Try.func7, Try.ntmps7
  go_wp2_with fail
  refine (dsk_new _).mono ?_
  rintro ev w1 ⟨rfl, hA1, f1, z1⟩
  go_wp2_with fail
  refine (ref_new _).mono ?_
  rintro ev w2 ⟨rfl, hA2, f2, z2⟩
  have g1 : Fr [] w w1 := ((Fr.refl _ _).alloc _).trans f1
  have g2 := g1.trans f2
  have hX2 := HX.out.fr g2
  have c0 : w2.cell? ⟨bS, 0, none⟩ = some vL := hX2.all.core.shelf.cell 0
  have hlist := hX2.all.core.list
  have hb2 := hX2.hb
  have h2S := hX2.all.core.shelf
  have hfS := h2S.frozen
  have hbl := h2S.lt
  have vLb : vL.ownBlock ≠ some bS := own_ne hX2.all.core.tL (by have := hX2.all.core.tS; omega)
  simp at hA1 z1
  have HL : Hid (At w1 (w.heap.size + 1) (dskCells (.slice none 0 0) (.slice none 0 0) (.slice none 0 0) (-1) 0 false) 65 ∧ w1.heap.size = w.heap.size + 1 + 1 ∧ w2.heap.size = w1.heap.size + 1) := ⟨hA1, z1, z2⟩
  clear hX2 hA1 z1 z2
  go_wp2_with (at_builtin; refine wpList_app2 _ rfl (.tmp 21) (.tmp 25) 33 rfl base 53 Try.underlying33 Try.infoPair vL E rfl (hlist.alloc _) w2.heap.size { b := w.heap.size + 1, vs := .slice none 0 0, vn := .slice none 0 0, vl := .slice none 0 0, D := newD, r := w1.heap.size, vd := .slice none 0 0, R := newR } 53 rfl (by exact at_alloc w2 _ _) (by omega) (by simp; omega) ?_; intro g6 c6 w6 own6 gr6 at6; have h6 := (h2S.alloc _).grown gr6 vLb; have hf6 := h6.frozen; have k0 : w6.cell? ⟨bS, 0, none⟩ = some vL := h6.cell 0)
  go_ret
  obtain ⟨hA1, z1, z2⟩ := HL.out
  have nn : ∀ k, (Value.slice none 0 0).ownBlock = some k → False := fun k hk => by simp [Value.ownBlock] at hk
  refine ⟨rfl, add_fin HX.out g2 ⟨f2.at hA1 (by simp), World.ownsRow_nil _ _ _ _, World.ownsRow_nil _ _ _ _, World.ownsRow_nil _ _ _ _⟩ hA2 (World.ownsRow_nil _ _ _ _) ?_ ?_ ?_ rfl (fun k hk => (nn k hk).elim) (fun k hk => (nn k hk).elim) (fun k hk => (nn k hk).elim) sim_new ?_ own6 gr6 at6⟩
  · show w.heap.size ≤ w.heap.size + 1; omega
  · show w.heap.size ≤ w1.heap.size; omega
  · show w.heap.size + 1 ≠ w1.heap.size; omega
  · exact ⟨Nat.zero_le _, Nat.le_refl _, Nat.zero_le _, by show (0 : Int) ≤ 0; omega, by show (0 : Int) ≤ ((N + 1 : Nat) : Int); omega, by show (-1 : Int) ≤ 9223372036854775807; omega⟩

set_option maxRecDepth 100000 in
set_option maxHeartbeats 8000000 in
theorem act_none (h : Cx w base bS bD N vL n vI vN G E tag) (hE : E = []) (kind on a b : Int) (s : ByteArray) (hk : ¬ kind = 1) :
    Calls Try.prog 7 #[.pointer (some ⟨bS, 0, none⟩), .agg #[.int .i64 kind, .int .i64 on, .int .i64 a, .int .i64 b, .string s]] w fun ev w' => ev = .returned (.bool true) ∧ St w' base bS bD (N + 1) ∧ Below base w w' := by
  have H := fun (w' : World) (hf : Fr [] w w') => fin_fr h hf
  have c0 : w.cell? ⟨bS, 0, none⟩ = some vL := h.all.core.shelf.cell 0
  have hbl := h.all.core.shelf.lt
  obtain ⟨aL, cL, rfl⟩ : ∃ aL cL, vL = .slice aL 0 cL := by
    rcases h.all.core.list.2 with ⟨h1, h2⟩ | ⟨g, cap, cur, h1, _⟩
    · exact ⟨none, 0, h1⟩
    · rw [hE] at h1; exact ⟨_, _, h1⟩
  have k1 : (kind == 1) = false := by simpa using hk
  clear h hk
  go_enter Try.func7, Try.ntmps7
  go_wp2_with fail
  go_ret
  exact ⟨rfl, H _ ((Fr.refl _ _).alloc _)⟩

set_option maxRecDepth 100000 in
set_option maxHeartbeats 8000000 in
theorem act_told (h : Cx w base bS bD N vL n vI vN G E tag) (hN : N < 16777216) (hE : 0 < E.length) (kind on a b : Int) (s : ByteArray) (hk : kind < 1 ∨ 3 < kind) (ho1 : -9223372036854775808 ≤ on) (ho2 : on ≤ 9223372036854775807)
    (HT : ∀ (w' : World) (i : Nat) (e : Ent), Fr [] w w' → E[i]? = some e → Calls Try.prog 19 #[.pointer (some ⟨bS, 0, none⟩), .agg #[.pointer (some ⟨e.b, 0, none⟩), .pointer (some ⟨e.r, 0, none⟩)], .agg #[.int .i64 kind, .int .i64 on, .int .i64 a, .int .i64 b, .string s]] w' fun ev w'' => ev = .returned (.bool true) ∧ St w'' base bS bD (N + 1) ∧ Below base w' w'') :
    Calls Try.prog 7 #[.pointer (some ⟨bS, 0, none⟩), .agg #[.int .i64 kind, .int .i64 on, .int .i64 a, .int .i64 b, .string s]] w fun ev w' => ev = .returned (.bool true) ∧ St w' base bS bD (N + 1) ∧ Below base w w' := by
  have HTT : Hid (∀ (w' : World) (i : Nat) (e : Ent), Fr [] w w' → E[i]? = some e → Calls Try.prog 19 #[.pointer (some ⟨bS, 0, none⟩), .agg #[.pointer (some ⟨e.b, 0, none⟩), .pointer (some ⟨e.r, 0, none⟩)], .agg #[.int .i64 kind, .int .i64 on, .int .i64 a, .int .i64 b, .string s]] w' fun ev w'' => ev = .returned (.bool true) ∧ St w'' base bS bD (N + 1) ∧ Below base w' w'') := HT
  have HX : Hid (Cx w base bS bD N vL n vI vN G E tag) := h
  have c0 : w.cell? ⟨bS, 0, none⟩ = some vL := h.all.core.shelf.cell 0
  have hbl := h.all.core.shelf.lt
  have hEl := h.el
  obtain ⟨gL, cL, rfl, hbL, hlL⟩ := h.all.core.list.form hE
  have k1 : (kind == 1) = false := by simp; omega
  have k2 : (kind == 2) = false := by simp; omega
  have k3 : (kind == 3) = false := by simp; omega
  have hE2 : ¬ E.length = 0 := by omega
  have e0 : ((E.length : Int) == 0) = false := by simpa using hE2
  have HP := fun (W : World) => pick_any W on E.length hE (by omega) ho1 ho2
  have hcl : ∀ (j : Nat) (e : Ent), E[j]? = some e → w.cell? ⟨gL, j * 2, none⟩ = some (.pointer (some ⟨e.b, 0, none⟩)) ∧ w.cell? ⟨gL, j * 2 + 1, none⟩ = some (.pointer (some ⟨e.r, 0, none⟩)) := by
    intro j e he
    have hj : j < E.length := (List.getElem?_eq_some_iff.1 he).1
    have key : ∀ (F : List Ent) (j : Nat), F[j]? = some e → (F.flatMap entCells)[j * 2]? = some (.pointer (some ⟨e.b, 0, none⟩)) ∧ (F.flatMap entCells)[j * 2 + 1]? = some (.pointer (some ⟨e.r, 0, none⟩)) := by
      intro F
      induction F with
      | nil => intro j h; simp at h
      | cons x F ih =>
        intro j h
        cases j with
        | zero =>
          simp only [List.getElem?_cons_zero, Option.some.injEq] at h
          subst h
          exact ⟨rfl, rfl⟩
        | succ j =>
          have := ih j (by simpa using h)
          show (entCells x ++ F.flatMap entCells)[(j + 1) * 2]? = _ ∧ (entCells x ++ F.flatMap entCells)[(j + 1) * 2 + 1]? = _
          have hl : (entCells x).length = 2 := rfl
          rw [List.getElem?_append_right (by omega), List.getElem?_append_right (by omega), hl, show (j + 1) * 2 - 2 = j * 2 by omega, show (j + 1) * 2 + 1 - 2 = j * 2 + 1 by omega]
          exact this
    obtain ⟨h1, h2⟩ := key E j he
    exact ⟨(h.all.core.list.cellAt (j * 2) (by omega)).trans h1, (h.all.core.list.cellAt (j * 2 + 1) (by omega)).trans h2⟩
  obtain ⟨e, he⟩ : ∃ e, E[pickI on E.length]? = some e := ⟨E[pickI on E.length]'(by unfold pickI; split <;> exact Nat.mod_lt _ hE), List.getElem?_eq_getElem _⟩
  obtain ⟨d0, d1⟩ := hcl _ e he
  have HE : Hid (E[pickI on E.length]? = some e) := he
  have hpl : pickI on E.length < E.length := (List.getElem?_eq_some_iff.1 he).1
  generalize hpi : pickI on E.length = pj at *
  have HPI : Hid (pickI on E.length = pj) := hpi
  clear h HT hcl he hk hpi
  go_enter Try.func7, Try.ntmps7
  go_wp2_with fail
  have hp1 : (pj : Int) < (E.length : Int) := by omega
  have hp0 : (0 : Int) ≤ (pj : Int) := by omega
  go_region_held3 (fun w' => w'.cell? ⟨bS, 0, none⟩ = some (.slice (some ⟨gL, 0, none⟩) E.length cL) ∧ w'.cell? ⟨w.heap.size, 1, none⟩ = some (.int .i64 on) ∧ w'.cell? ⟨gL, pj * 2, none⟩ = some (.pointer (some ⟨e.b, 0, none⟩)) ∧ w'.cell? ⟨gL, pj * 2 + 1, none⟩ = some (.pointer (some ⟨e.r, 0, none⟩))) (go_keep) ((go_at_call 14; refine (HP _).mono ?_; intro ev w1 hq; obtain ⟨k, hev, hk, hkl, hw⟩ := hq; subst hev; subst hw; obtain rfl : k = pj := hk))
  all_goals
    go_wp2_with fail
    refine (HTT.out _ k e ?_ HE.out).mono ?_
    · exact (((Fr.refl [] w).alloc _).alloc _).drew
    · rintro ev w3 ⟨rfl, hst, hbe⟩
      go_wp2_with fail
      go_ret
      refine ⟨rfl, hst, Below.trans (Fr.belowS (((Fr.refl [] w).alloc _).alloc _).drew HX.out.hb (by simp)) hbe⟩
end

end Go.Proofs.Ytjgnheelcbkahaa.dk
