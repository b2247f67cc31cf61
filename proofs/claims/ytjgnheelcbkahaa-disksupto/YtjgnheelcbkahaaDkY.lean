/-
  shelf.told: Crash; shelf.act: New.
-/
import Derived.Test.YtjgnheelcbkahaaDkX
namespace Go.Proofs.Ytjgnheelcbkahaa.dk
open Go.RowKit

theorem Try.infoPair : (Try.prog.info? 53).map (fun i => (i.zero, i.size, i.bytes)) = some (some (.agg #[.pointer none, .pointer none]), 2, 16) := by kernel_rfl

theorem entCells_len (E : List Ent) : (E.flatMap entCells).length = E.length * 2 := by
  induction E with
  | nil => rfl
  | cons e E ih => rw [List.flatMap_cons, List.length_append, ih, List.length_cons]; show 2 + _ = _; omega

/-- append of one pair -/
theorem wpList_app2 {P : Program} (w : World) {ops : Array Oper} {rest : List Oper} {o : Oper} {a : Act} {Q : Exit → Act → World → Prop} (hgd : o.guard = none) (s x : Operand) (t : TypeId)
    (ho : o.op = .call { callee := .builtin .append, args := #[s, x], argTypes := #[t, t] })
    (base : Nat) (ty : TypeId) (ht : P.underlying t = some (.slice ty)) (hi : (P.info? ty).map (fun i => (i.zero, i.size, i.bytes)) = some (some (.agg #[.pointer none, .pointer none]), 2, 16))
    (v : Value) (E : List Ent) (hs : a.eval s = v) (hown : w.ownsRow base ty 2 v E.length (E.flatMap entCells))
    (B : Nat) (e : Ent) (tt : TypeId) (hx : a.eval x = .slice (some ⟨B, 0, none⟩) 1 1) (hB : At w B #[.pointer (some ⟨e.b, 0, none⟩), .pointer (some ⟨e.r, 0, none⟩)] tt) (hlen : E.length < 1073741824) (hbase : base ≤ w.heap.size)
    (h : ∀ g cap w', w'.ownsRow base ty 2 (.slice (some ⟨g, 0, none⟩) (E.length + 1) cap) (E ++ [e]).length ((E ++ [e]).flatMap entCells) → w.grownBy w' v.ownBlock → (v.ownBlock = some g ∨ g = w.heap.size) → wpList P ops Q rest (a.put o.dst (.slice (some ⟨g, 0, none⟩) (E.length + 1) cap)) w') : wpList P ops Q (o :: rest) a w := by
  obtain ⟨i0, hi, hz0, hz1, hz2⟩ := info_parts hi
  refine wpList_append_lies w hgd s x t ho base ty i0 _ 2 16 ht hi hz0 hz1 hz2 rfl (by decide) v E.length (E.flatMap entCells) hs hown ⟨B, 0, none⟩ 1 1 (entCells e) hx rfl (World.news_of_block (cs := #[.pointer (some ⟨e.b, 0, none⟩), .pointer (some ⟨e.r, 0, none⟩)]) hB) (fun u hu => by simp only [entCells, List.mem_cons, List.not_mem_nil, or_false] at hu; rcases hu with rfl | rfl <;> rfl) (by decide) (by unfold maxLen; omega) (by omega) hbase _ rfl ?_
  intro g cap w' h1 h2 h3 _
  refine h g cap w' ?_ h2 h3
  rw [List.length_append, List.flatMap_append]
  have e1 : [e].flatMap entCells = entCells e := by simp
  rw [e1]
  exact h1

/-- one entry more -/
theorem add_fin {W w2 w6 : World} {base bS bD N g6 c6 : Nat} {vL : Value} {n : Int} {vI vN : Value} {G : List Grp} {E : List Ent} {tag : Nat → Nat} {e : Ent} {X : Obj} (hX : Cx W base bS bD N vL n vI vN G E tag) (f2 : Fr [] W w2)
    (hD : DiskAt w2 base e.b e.vs e.vn e.vl e.D) (hR : At w2 e.r (refCells e.vd e.R.s e.R.left e.R.down e.R.steps) 68) (hd : w2.ownsRow base 73 4 e.vd e.R.l.length (cellsOf e.R.l))
    (hb : W.heap.size ≤ e.b) (hr : W.heap.size ≤ e.r) (hbr : e.b ≠ e.r) (hl : e.vl = .slice none 0 0)
    (hs : ∀ k, e.vs.ownBlock = some k → (k < W.heap.size → tag k = 5) ∧ k ≠ e.b ∧ k ≠ e.r) (hn : ∀ k, e.vn.ownBlock = some k → (k < W.heap.size → tag k = 5) ∧ k ≠ e.b ∧ k ≠ e.r)
    (hvd : ∀ k, e.vd.ownBlock = some k → W.heap.size ≤ k ∧ k ≠ e.b ∧ k ≠ e.r ∧ e.vs.ownBlock ≠ some k ∧ e.vn.ownBlock ≠ some k)
    (hsim : Sim e.D e.R) (hsm : Small (N + 1) e)
    (own6 : w6.ownsRow base 53 2 (.slice (some ⟨g6, 0, none⟩) (E.length + 1) c6) (E ++ [e]).length ((E ++ [e]).flatMap entCells)) (gr6 : (w2.alloc X).grownBy w6 vL.ownBlock) (at6 : vL.ownBlock = some g6 ∨ g6 = (w2.alloc X).heap.size) :
    St (w6.setCell ⟨bS, 0, none⟩ (.slice (some ⟨g6, 0, none⟩) (E.length + 1) c6)) base bS bD (N + 1) ∧ Below base W (w6.setCell ⟨bS, 0, none⟩ (.slice (some ⟨g6, 0, none⟩) (E.length + 1) c6)) := by
  have hc := hX.all.core
  have hs2 := f2.size
  have e2 : (w2.alloc X).heap.size = w2.heap.size + 1 := by simp
  have hbSl : bS < W.heap.size := hc.shelf.lt
  have vLb : vL.ownBlock ≠ some bS := own_ne hc.tL (by have := hc.tS; omega)
  have vLlt : ∀ k, vL.ownBlock = some k → k < W.heap.size := fun k hk => (hc.list.lt k hk).2
  -- what does not lie in the list's row, nor in the shelf
  have row5 : ∀ v : Value, (∀ k, v.ownBlock = some k → k < W.heap.size → tag k = 5) → (∀ q, vL.ownBlock = some q → v.ownBlock ≠ some q) ∧ v.ownBlock ≠ some bS := by
    intro v hv
    refine ⟨fun q hq h => ?_, fun h => ?_⟩
    · have := hv q h (vLlt q hq); have := hc.tL q hq; omega
    · have := hv bS h hbSl; have := hc.tS; omega
  have keepRow : ∀ {ty : TypeId} {sz : Nat} {v : Value} {m : Nat} {xs : List Value}, w2.ownsRow base ty sz v m xs → (∀ k, v.ownBlock = some k → k < W.heap.size → tag k = 5) → (w6.setCell ⟨bS, 0, none⟩ (.slice (some ⟨g6, 0, none⟩) (E.length + 1) c6)).ownsRow base ty sz v m xs := by
    intro ty sz v m xs h1 h2
    exact rowSetOther (kept_of (h1.alloc X) gr6 (row5 v h2).1) bS 0 (row5 v h2).2 _
  have keepAt : ∀ {k : Nat} {cs : Array Value} {ty : TypeId}, At w2 k cs ty → W.heap.size ≤ k → At (w6.setCell ⟨bS, 0, none⟩ (.slice (some ⟨g6, 0, none⟩) (E.length + 1) c6)) k cs ty := by
    intro k cs ty h1 h2
    exact At.setOther ((h1.alloc X).grown gr6 (fun h3 => by have := vLlt k h3; omega)) (by omega) _
  have g6b : (Value.slice (some ⟨g6, 0, none⟩) (E.length + 1) c6).ownBlock ≠ some bS := fun h => by
    have e3 := blk_eq h
    rcases at6 with h1 | h1
    · exact vLb (by rw [h1, e3])
    · omega
  have hf : Fr (bS :: vL.ownBlock.toList) W (w6.setCell ⟨bS, 0, none⟩ (.slice (some ⟨g6, 0, none⟩) (E.length + 1) c6)) :=
    Fr.setCell (Fr.grown (Fr.alloc f2.nil X) gr6 (fun k hk => .inl (by simp [hk]))) _ (.inl (by simp)) _
  have hsh : At (w6.setCell ⟨bS, 0, none⟩ (.slice (some ⟨g6, 0, none⟩) (E.length + 1) c6)) bS #[.slice (some ⟨g6, 0, none⟩) (E.length + 1) c6, .pointer (some ⟨bD, 0, none⟩)] 35 :=
    (((f2.at hc.shelf (by simp)).alloc X).grown gr6 vLb).set 0 _
  have hdl : ∀ v : Value, ∀ {ty : TypeId} {sz m : Nat} {xs : List Value}, w2.ownsRow base ty sz v m xs → ∀ k, v.ownBlock = some k → k < w2.heap.size := fun v _ _ _ _ h k hk => (h.lt k hk).2
  obtain ⟨tag', hA⟩ := hX.all.add hf hsh (rowSetOther own6 bS 0 g6b _)
    ⟨keepAt hD.blk hb, keepRow hD.safe (fun k hk => (hs k hk).1), keepRow hD.now (fun k hk => (hn k hk).1), keepRow hD.loose (fun k hk => by rw [hl] at hk; simp [Value.ownBlock] at hk)⟩
    (keepAt hR hr) (keepRow hd (fun k hk hlt => by have := (hvd k hk).1; omega)) hX.hb hb hr hbr hl hs hn hvd (fun k hk => by
      have e3 := blk_eq hk
      rcases at6 with h1 | h1
      · exact .inl (by rw [h1, e3])
      · have l1 := hD.blk.lt
        have l2 := hR.lt
        refine .inr ⟨by omega, by omega, by omega, fun h => ?_, fun h => ?_, fun h => ?_⟩
        · have := hdl _ hD.safe k h; omega
        · have := hdl _ hD.now k h; omega
        · have := hdl _ hd k h; omega)
  refine ⟨⟨_, n, vI, vN, G, _, tag', hA, ?_, ?_, ?_, hX.gn, hX.n0, ?_, Nat.le_trans hX.hb hf.size⟩, hf.belowS hX.hb (fun k hk => ?_)⟩
  · intro x hx
    rcases List.mem_append.1 hx with hx | hx
    · exact ⟨(hX.sim x hx).1, (hX.sim x hx).2.mono (by omega)⟩
    · simp only [List.mem_singleton] at hx; subst hx; exact ⟨hsim, hsm⟩
  · have := hX.el; simp only [List.length_append, List.length_singleton]; omega
  · have := hX.gl; omega
  · have := hX.n1; omega
  · rcases List.mem_cons.1 hk with rfl | hk
    · exact hc.lS
    · exact (hc.list.lt k (by simpa using hk)).1

section
variable (w : World) (base bS bD N : Nat) (vL : Value) (n : Int) (vI vN : Value) (G : List Grp) (E : List Ent) (tag : Nat → Nat)

set_option maxRecDepth 100000 in
set_option maxHeartbeats 8000000 in
theorem told_crash (h : Cx w base bS bD N vL n vI vN G E tag) (hN : N < 16777216) (i : Nat) (e : Ent) (he : E[i]? = some e) (on a b : Int) (s : ByteArray) (ha1 : -9223372036854775808 ≤ a) (ha2 : a ≤ 9223372036854775807) :
    Calls Try.prog 19 #[.pointer (some ⟨bS, 0, none⟩), .agg #[.pointer (some ⟨e.b, 0, none⟩), .pointer (some ⟨e.r, 0, none⟩)], .agg #[.int .i64 10, .int .i64 on, .int .i64 a, .int .i64 b, .string s]] w fun ev w' => ev = .returned (.bool true) ∧ St w' base bS bD (N + 1) ∧ Below base w w' := by
  have hm : e ∈ E := List.mem_of_getElem? he
  obtain ⟨hsim, hsm⟩ := h.sim e hm
  have F0 : ∀ X Y, Fr [] w ((w.alloc X).alloc Y) := fun X Y => ((Fr.refl _ _).alloc _).alloc _
  have m1 := hsm.s
  have m2 := hsm.l
  have m4 := hsm.d
  have C1 := fun (w' : World) (hf : Fr [] w w') => dsk_crash w' base e.b e.vs e.vn e.vl e.D a ha1 ha2 (((h.fr hf).all.ents i e he).disk) (by omega) (h.fr hf).hb
  have C2 := fun (w' : World) (hf : Fr [] w w') => ref_crash w' base e.r e.vd e.R.s e.R.left e.R.down e.R.steps e.R.l a ha1 ha2 (((h.fr hf).all.ents i e he).ref) (((h.fr hf).all.ents i e he).deeds) (by omega)
  have HH : Hid (Cx w base bS bD N vL n vI vN G E tag ∧ E[i]? = some e ∧ Sim e.D e.R ∧ Small N e ∧ EntOk w base tag i e) := ⟨h, he, hsim, hsm, h.all.ents i e he⟩
  have HC1 := C1 _ (F0 (.cells #[.pointer (some ⟨e.b, 0, none⟩), .pointer (some ⟨e.r, 0, none⟩)] 53) (.cells #[.int .i64 10, .int .i64 on, .int .i64 a, .int .i64 b, .string s] 38))
  have HC2 : Hid (∀ (w' : World), Fr [] w w' → Calls Try.prog 41 #[.pointer (some ⟨e.r, 0, none⟩), .int .i64 a] w' fun ev w'' => ∃ v0, ev = .returned (.pointer (some ⟨w'.heap.size, 0, none⟩)) ∧ At w'' w'.heap.size (refCells v0 (refCrashL e.R.l e.R.s a).length (-1) false 0) 68 ∧ w''.ownsRow (w'.heap.size + 1) 73 4 v0 (refCrashL e.R.l e.R.s a).length (cellsOf (refCrashL e.R.l e.R.s a)) ∧ Fr [] w' w'') := C2
  have hEl := h.el
  clear h C1 C2 hm he hsim hsm m1 m2 m4
  go_enter Try.func19, Try.ntmps19
  go_wp2_with fail
  refine HC1.mono ?_
  rintro ev w1 ⟨v0, rfl, hD1, f1, hv0, hnb⟩
  obtain ⟨bp, bo⟩ := boxes w #[.pointer (some ⟨e.b, 0, none⟩), .pointer (some ⟨e.r, 0, none⟩)] #[.int .i64 10, .int .i64 on, .int .i64 a, .int .i64 b, .string s] 53 38
  have bp1 := f1.at bp (by simp)
  have bo1 := f1.at bo (by simp)
  obtain ⟨p0, p1⟩ := pair_cells bp1
  obtain ⟨o0, o1, o2, o3, o4⟩ := act_cells bo1
  have g1 := (F0 _ _).trans f1
  have hsz1 := f1.size
  simp at hsz1 hD1 hnb
  have HV : Hid (v0 = e.vs ∨ New ((w.alloc (.cells #[.pointer (some ⟨e.b, 0, none⟩), .pointer (some ⟨e.r, 0, none⟩)] 53)).alloc (.cells #[.int .i64 10, .int .i64 on, .int .i64 a, .int .i64 b, .string s] 38)) v0) := hv0
  clear bp bo f1 hv0 HC1
  go_wp2_with fail
  refine (HC2.out _ g1).mono ?_
  rintro ev w2 ⟨v1, rfl, hA2, hd2, f2⟩
  have g2 := g1.trans f2
  have hX2 := HH.out.1.fr g2
  have c0 : w2.cell? ⟨bS, 0, none⟩ = some vL := hX2.all.core.shelf.cell 0
  have hlist := hX2.all.core.list
  have hb2 := hX2.hb
  have h2S := hX2.all.core.shelf
  have hfS := h2S.frozen
  have hbl := h2S.lt
  have vLb : vL.ownBlock ≠ some bS := own_ne hX2.all.core.tL (by have := hX2.all.core.tS; omega)
  have HL : Hid (DiskAt w1 base (w.heap.size + 1 + 1) v0 v0 (.slice none 0 0) (e.D.crashed a) ∧ ¬ v0.ownBlock = some (w.heap.size + 1 + 1) ∧ Fr [] w w1) := ⟨hD1, hnb, g1⟩
  clear hX2 p0 p1 o0 o1 o2 o3 o4 bp1 bo1 hD1 hnb
  go_wp2_with (at_builtin; refine wpList_app2 _ rfl (.tmp 170) (.tmp 174) 33 rfl base 53 Try.underlying33 Try.infoPair vL E rfl (hlist.alloc _) w2.heap.size { b := w.heap.size + 1 + 1, vs := v0, vn := v0, vl := .slice none 0 0, D := e.D.crashed a, r := w1.heap.size, vd := v1, R := { l := refCrashL e.R.l e.R.s a, s := (refCrashL e.R.l e.R.s a).length, left := -1, down := false, steps := 0 } } 53 rfl (by exact at_alloc w2 _ _) (by omega) (by simp; omega) ?_; intro g6 c6 w6 own6 gr6 at6; have h6 := (h2S.alloc _).grown gr6 vLb; have hf6 := h6.frozen; have k0 : w6.cell? ⟨bS, 0, none⟩ = some vL := h6.cell 0)
  go_ret
  obtain ⟨hX, he, hsim, hsm, hok⟩ := HH.out
  obtain ⟨hD1, hnb, g1'⟩ := HL.out
  have hbl1 := hD1.blk.lt
  have hsz2 := f2.size
  have hv : ∀ k, v0.ownBlock = some k → (k < w.heap.size → tag k = 5) ∧ k ≠ w.heap.size + 1 + 1 ∧ k ≠ w1.heap.size := by
    intro k hk
    have l1 := (hD1.safe.lt k hk).2
    refine ⟨fun hlt => ?_, fun h2 => hnb (by rw [hk, h2]), by omega⟩
    rcases HV.out with h1 | h1
    · subst h1; exact hok.ts k hk
    · have := h1 k hk; simp at this; omega
  refine ⟨rfl, add_fin hX g2 ⟨f2.at hD1.blk (by simp), f2.row hD1.safe (by simp), f2.row hD1.now (by simp), f2.row hD1.loose (by simp)⟩ hA2 (rowBase hd2 (by have := hX.hb; omega)) ?_ ?_ ?_ rfl hv hv ?_ (sim_crash hsim a) ?_ own6 gr6 at6⟩
  · show w.heap.size ≤ w.heap.size + 1 + 1; omega
  · show w.heap.size ≤ w1.heap.size; omega
  · show w.heap.size + 1 + 1 ≠ w1.heap.size; omega
  · intro k hk
    have l1 := (hd2.lt k hk).1
    refine ⟨by omega, ?_, ?_, fun h2 => ?_, fun h2 => ?_⟩
    · show k ≠ w.heap.size + 1 + 1; omega
    · show k ≠ w1.heap.size; omega
    · have := (hD1.safe.lt k h2).2; omega
    · have := (hD1.safe.lt k h2).2; omega
  · have c1 := crashTo_le e.D.safe e.D.loose a e.D.loose.length
    have c2 := (refCrashTo_le e.R.l e.R.s a e.R.l.length).1
    have c3 := hsm.sl
    have c4 := hsm.d
    refine ⟨?_, ?_, ?_, ?_, ?_, ?_⟩
    · show (crashTo e.D.safe e.D.loose a e.D.loose.length).length + ([] : List Cel).length ≤ N + 1; simp only [List.length_nil]; omega
    · show (crashTo e.D.safe e.D.loose a e.D.loose.length).length ≤ (crashTo e.D.safe e.D.loose a e.D.loose.length).length + ([] : List Cel).length; simp
    · show (refCrashTo e.R.l e.R.s a e.R.l.length).1.length ≤ N + 1; omega
    · show (0 : Int) ≤ 0; omega
    · show (0 : Int) ≤ ((N + 1 : Nat) : Int); omega
    · show (-1 : Int) ≤ 9223372036854775807; omega
end

end Go.Proofs.Ytjgnheelcbkahaa.dk
