/-
  keepInts.
-/
import Derived.Test.YtjgnheelcbkahaaDkO
namespace Go.Proofs.Ytjgnheelcbkahaa.dk
open Go.RowKit

theorem Try.infoInts : (Try.prog.info? 30).map (fun i => (i.zero, i.size, i.bytes)) = some (some (.slice none 0 0), 1, 24) := by kernel_rfl

/-- the drawer's own rows lie apart from one another and from the lists -/
structure DSep (b : Nat) (vI vN : Value) (G : List Grp) : Prop where
  ib : vI.ownBlock ≠ some b
  nb : vN.ownBlock ≠ some b
  i_n : ∀ q, vI.ownBlock = some q → vN.ownBlock ≠ some q
  gb : ∀ g ∈ G, g.v.ownBlock ≠ some b
  gi : ∀ g ∈ G, ∀ q, g.v.ownBlock = some q → vI.ownBlock ≠ some q
  gn : ∀ g ∈ G, ∀ q, g.v.ownBlock = some q → vN.ownBlock ≠ some q

theorem kept_of {w w' : World} {row : Option Nat} {base : Nat} {e : TypeId} {size : Nat} {v : Value} {n : Nat} {xs : List Value} (h : w.ownsRow base e size v n xs) (hg : w.grownBy w' row) (hne : ∀ q, row = some q → v.ownBlock ≠ some q) : w'.ownsRow base e size v n xs :=
  h.kept hg (by
    cases hr : row with
    | none => cases hv : v.ownBlock <;> simp
    | some q => exact .inr (hne q hr))

theorem DrwAt.grown {w w' : World} {base b : Nat} {n : Int} {vI vN : Value} {G : List Grp} {row : Option Nat} (h : DrwAt w base b n vI vN G) (hg : w.grownBy w' row) (hb : row ≠ some b) (hI : ∀ q, row = some q → vI.ownBlock ≠ some q) (hN : ∀ q, row = some q → vN.ownBlock ≠ some q) (hG : ∀ q, row = some q → ∀ g ∈ G, g.v.ownBlock ≠ some q) : DrwAt w' base b n vI vN G :=
  ⟨h.blk.grown hg hb, kept_of h.ints hg hI, kept_of h.marks hg hN, fun g hm => kept_of (h.each g hm) hg (fun q hq => hG q hq g hm)⟩
theorem DrwAt.alloc {w : World} {base b : Nat} {n : Int} {vI vN : Value} {G : List Grp} (h : DrwAt w base b n vI vN G) (o : Obj) : DrwAt (w.alloc o) base b n vI vN G :=
  h.grown (World.grownBy_alloc w o none) (by simp) (by simp) (by simp) (by simp)
theorem grownBy_setCell (w : World) (b i : Nat) (u : Value) : w.grownBy (w.setCell ⟨b, i, none⟩ u) (some b) :=
  ⟨rfl, rfl, rfl, by simp, fun k _ hk => Below.heap_setCell _ _ _ _ (fun e => hk (by rw [e]))⟩

/-- l[i] = m for each i -/
theorem repl_set (m : Value) (i : Nat) (xs : List Value) (hi : i < xs.length) : (List.replicate i m ++ xs.drop i).set i m = List.replicate (i + 1) m ++ xs.drop (i + 1) := by
  rw [List.set_append_right _ _ (by simp), List.drop_eq_getElem_cons hi, List.replicate_succ', List.append_assoc, List.length_replicate, Nat.sub_self, List.set_cons_zero]
  rfl

theorem Uni.alloc {w : World} {base : Nat} {e : TypeId} {u : Value} {k : Nat} {x : Int} (h : Uni w base e u k x) (o : Obj) : Uni (w.alloc o) base e u k x := World.ownsRow.alloc h o

/-- what stands in the middle of keepInts -/
structure KS (w wx : World) (base b : Nat) (n : Int) (vI vN v : Value) (G : List Grp) (S : List Nat) : Prop where
  d : DrwAt wx base b n vI vN G
  f : Fr S w wx
  sz : base ≤ w.heap.size

theorem KS.uni {w wx w' : World} {base b : Nat} {n : Int} {vI vN v : Value} {G : List Grp} {S : List Nat} {X : Obj} (h : KS w wx base b n vI vN v G S) (hg : (wx.alloc X).grownBy w' v.ownBlock)
    (hv : v.ownBlock ≠ some b ∧ (∀ q, v.ownBlock = some q → vI.ownBlock ≠ some q) ∧ (∀ q, v.ownBlock = some q → vN.ownBlock ≠ some q) ∧ (∀ q, v.ownBlock = some q → ∀ g ∈ G, g.v.ownBlock ≠ some q)) (hS : ∀ q, v.ownBlock = some q → q ∈ S) : KS w w' base b n vI vN v G S :=
  ⟨(h.d.alloc X).grown hg hv.1 hv.2.1 hv.2.2.1 hv.2.2.2, (h.f.alloc X).grown hg (fun q hq => .inl (hS q hq)), h.sz⟩

theorem own_or_new {w wx : World} {v : Value} {g m c : Nat} {X : Obj} (hsz : w.heap.size ≤ wx.heap.size) (h : v.ownBlock = some g ∨ g = (wx.alloc X).heap.size) : (Value.slice (some ⟨g, 0, none⟩) m c).ownBlock = v.ownBlock ∨ New w (.slice (some ⟨g, 0, none⟩) m c) := by
  rcases h with h | h
  · exact .inl h.symm
  · refine .inr (fun q hq => ?_)
    have e : q = g := by simpa [Value.ownBlock] using hq.symm
    have e2 : (wx.alloc X).heap.size = wx.heap.size + 1 := by simp
    omega

/-- four at once -/
theorem wpList_app4s {P : Program} (w : World) {ops : Array Oper} {rest : List Oper} {o : Oper} {a : Act} {Q : Exit → Act → World → Prop} (hgd : o.guard = none) (s x : Operand) (t : TypeId)
    (ho : o.op = .call { callee := .builtin .append, args := #[s, x], argTypes := #[t, t] })
    (base : Nat) (e : TypeId) (z : Value) (bytes : Nat) (ht : P.underlying t = some (.slice e)) (hi : (P.info? e).map (fun i => (i.zero, i.size, i.bytes)) = some (some z, 1, bytes)) (hz : z.cells.size = 1) (hby : bytes ≤ 24)
    (v : Value) (n : Nat) (ys : List Value) (hs : a.eval s = v) (hown : w.ownsRow base e 1 v n ys)
    (B : Nat) (y0 y1 y2 y3 : Value) (tt : TypeId) (hx : a.eval x = .slice (some ⟨B, 0, none⟩) 4 4) (hB : At w B #[y0, y1, y2, y3] tt) (h1 : ∀ u ∈ [y0, y1, y2, y3], u.oneCell' = true) (hlen : n < 1073741824) (hbase : base ≤ w.heap.size)
    (h : ∀ g cap w', w'.ownsRow base e 1 (.slice (some ⟨g, 0, none⟩) (n + 4) cap) (n + 4) (ys ++ [y0, y1, y2, y3]) → w.grownBy w' v.ownBlock → (v.ownBlock = some g ∨ g = w.heap.size) → wpList P ops Q rest (a.put o.dst (.slice (some ⟨g, 0, none⟩) (n + 4) cap)) w') : wpList P ops Q (o :: rest) a w := by
  obtain ⟨i0, hi, hz0, hz1, hz2⟩ := info_parts hi
  refine wpList_append_lies w hgd s x t ho base e i0 z 1 bytes ht hi hz0 hz1 hz2 hz (by decide) v n ys hs hown ⟨B, 0, none⟩ 4 4 [y0, y1, y2, y3] hx rfl (World.news_of_block (cs := #[y0, y1, y2, y3]) hB) h1 (by decide) (by unfold maxLen; omega) ?_ hbase _ rfl ?_
  · have := Nat.mul_le_mul (show n + 4 ≤ 1073741828 by omega) hby
    omega
  · intro g cap w' h1 h2 h3 _
    exact h g cap w' h1 h2 h3

theorem blk_eq {g m c q : Nat} (h : (Value.slice (some ⟨g, 0, none⟩) m c).ownBlock = some q) : q = g := by simpa [Value.ownBlock] using h.symm

theorem keep_fin {w wC wI wN : World} {base b : Nat} {n : Int} {vI vN v ua ub uc : Value} {G : List Grp} {S : List Nat} {k gI cI gN cN : Nat} {X Y : Obj} {m : Int} (hK : KS w wC base b n vI vN v G S) (hS : DSep b vI vN G)
    (hV : v.ownBlock ≠ some b ∧ (∀ q, v.ownBlock = some q → vI.ownBlock ≠ some q) ∧ (∀ q, v.ownBlock = some q → vN.ownBlock ≠ some q) ∧ (∀ q, v.ownBlock = some q → ∀ g ∈ G, g.v.ownBlock ≠ some q))
    (hbw : b < w.heap.size) (hIw : ∀ q, vI.ownBlock = some q → q < w.heap.size) (hNw : ∀ q, vN.ownBlock = some q → q < w.heap.size)
    (hSb : b ∈ S) (hSI : ∀ q, vI.ownBlock = some q → q ∈ S) (hSN : ∀ q, vN.ownBlock = some q → q ∈ S)
    (U0 : Uni wC base 3 v k m) (UA : Uni wC base 3 ua (k + 1) m) (UB : Uni wC base 3 ub (k + 2) m) (UC : Uni wC base 3 uc (k + 3) m)
    (nA : ua.ownBlock = v.ownBlock ∨ New w ua) (nB : ub.ownBlock = v.ownBlock ∨ New w ub) (nC : uc.ownBlock = v.ownBlock ∨ New w uc)
    (ownI : wI.ownsRow base 30 1 (.slice (some ⟨gI, 0, none⟩) (G.length + 4) cI) (G.length + 4) (G.map Grp.v ++ [v, ua, ub, uc])) (grI : (wC.alloc X).grownBy wI vI.ownBlock) (atI : vI.ownBlock = some gI ∨ gI = (wC.alloc X).heap.size)
    (ownN : wN.ownsRow base 3 1 (.slice (some ⟨gN, 0, none⟩) (G.length + 4) cN) (G.length + 4) ((G.map fun g => .int .i64 g.m) ++ [.int .i64 m, .int .i64 m, .int .i64 m, .int .i64 m])) (grN : ((wI.setCell ⟨b, 3, none⟩ (.slice (some ⟨gI, 0, none⟩) (G.length + 4) cI)).alloc Y).grownBy wN vN.ownBlock) (atN : vN.ownBlock = some gN ∨ gN = ((wI.setCell ⟨b, 3, none⟩ (.slice (some ⟨gI, 0, none⟩) (G.length + 4) cI)).alloc Y).heap.size) :
    ∃ vI' vN' ua ub uc, DrwAt (wN.setCell ⟨b, 6, none⟩ (.slice (some ⟨gN, 0, none⟩) (G.length + 4) cN)) base b n vI' vN' (G ++ [⟨v, k, m⟩, ⟨ua, k + 1, m⟩, ⟨ub, k + 2, m⟩, ⟨uc, k + 3, m⟩]) ∧ DSep b vI' vN' (G ++ [⟨v, k, m⟩, ⟨ua, k + 1, m⟩, ⟨ub, k + 2, m⟩, ⟨uc, k + 3, m⟩]) ∧ Fr S w (wN.setCell ⟨b, 6, none⟩ (.slice (some ⟨gN, 0, none⟩) (G.length + 4) cN)) ∧ (vI'.ownBlock = vI.ownBlock ∨ New w vI') ∧ (vN'.ownBlock = vN.ownBlock ∨ New w vN') ∧ (ua.ownBlock = v.ownBlock ∨ New w ua) ∧ (ub.ownBlock = v.ownBlock ∨ New w ub) ∧ (uc.ownBlock = v.ownBlock ∨ New w uc) := by
  have szC := hK.f.size
  have szI := grI.size
  have szN := grN.size
  have e1 : (wC.alloc X).heap.size = wC.heap.size + 1 := by simp
  have e2 : ((wI.setCell ⟨b, 3, none⟩ (.slice (some ⟨gI, 0, none⟩) (G.length + 4) cI)).alloc Y).heap.size = wI.heap.size + 1 := by simp
  -- the new lists lie apart
  have apart : ∀ u : Value, (u.ownBlock = v.ownBlock ∨ New w u) → u.ownBlock ≠ some b ∧ (∀ q, u.ownBlock = some q → vI.ownBlock ≠ some q) ∧ (∀ q, u.ownBlock = some q → vN.ownBlock ≠ some q) := by
    intro u hu
    rcases hu with hu | hu
    · exact ⟨fun h => hV.1 (by rw [← hu, h]), fun q hq => hV.2.1 q (by rw [← hu, hq]), fun q hq => hV.2.2.1 q (by rw [← hu, hq])⟩
    · exact ⟨fun h => by have := hu b h; omega, fun q hq h => by have := hu q hq; have := hIw q h; omega, fun q hq h => by have := hu q hq; have := hNw q h; omega⟩
  have aV := apart v (.inl rfl)
  have aA := apart ua nA
  have aB := apart ub nB
  have aC := apart uc nC
  -- in wI
  have atI' : At wI b (drwCells n vI vN) 32 := (hK.d.blk.alloc X).grown grI hS.ib
  have mI := kept_of (hK.d.marks.alloc X) grI (fun q hq => hS.i_n q hq)
  have eI : ∀ g ∈ G, Uni wI base 3 g.v g.n g.m := fun g hm => kept_of ((hK.d.each g hm).alloc X) grI (fun q hq h => hS.gi g hm q h hq)
  have uI : ∀ u j, Uni wC base 3 u j m → (∀ q, u.ownBlock = some q → vI.ownBlock ≠ some q) → Uni wI base 3 u j m := fun u j hu hne => kept_of (hu.alloc X) grI (fun q hq h => hne q h hq)
  have gIb : (Value.slice (some ⟨gI, 0, none⟩) (G.length + 4) cI).ownBlock ≠ some b := fun h => by
    have e := blk_eq h
    rcases atI with h1 | h1
    · exact hS.ib (by rw [h1, e])
    · omega
  -- the store
  have s1 := atI'.set 3 (.slice (some ⟨gI, 0, none⟩) (G.length + 4) cI)
  have s2 := rowSetOther ownI b 3 gIb (.slice (some ⟨gI, 0, none⟩) (G.length + 4) cI)
  have s3 := rowSetOther mI b 3 hS.nb (.slice (some ⟨gI, 0, none⟩) (G.length + 4) cI)
  have s4 : ∀ g ∈ G, Uni (wI.setCell ⟨b, 3, none⟩ (.slice (some ⟨gI, 0, none⟩) (G.length + 4) cI)) base 3 g.v g.n g.m := fun g hm => rowSetOther (eI g hm) b 3 (hS.gb g hm) _
  have s5 : ∀ u j, Uni wC base 3 u j m → u.ownBlock ≠ some b → (∀ q, u.ownBlock = some q → vI.ownBlock ≠ some q) → Uni (wI.setCell ⟨b, 3, none⟩ (.slice (some ⟨gI, 0, none⟩) (G.length + 4) cI)) base 3 u j m := fun u j hu hb hne => rowSetOther (uI u j hu hne) b 3 hb _
  -- in wN
  have gIN : ∀ q, vN.ownBlock = some q → (Value.slice (some ⟨gI, 0, none⟩) (G.length + 4) cI).ownBlock ≠ some q := fun q hq h => by
    have e := blk_eq h
    rcases atI with h1 | h1
    · exact hS.i_n gI h1 (by rw [hq, e])
    · have := hNw q hq; omega
  have t1 := (s1.alloc Y).grown grN hS.nb
  have t2 := kept_of (s2.alloc Y) grN gIN
  have t4 : ∀ g ∈ G, Uni wN base 3 g.v g.n g.m := fun g hm => kept_of ((s4 g hm).alloc Y) grN (fun q hq h => hS.gn g hm q h hq)
  have t5 : ∀ u j, Uni wC base 3 u j m → u.ownBlock ≠ some b → (∀ q, u.ownBlock = some q → vI.ownBlock ≠ some q) → (∀ q, u.ownBlock = some q → vN.ownBlock ≠ some q) → Uni wN base 3 u j m := fun u j hu hb hne hne2 => kept_of ((s5 u j hu hb hne).alloc Y) grN (fun q hq h => hne2 q h hq)
  have gNb : (Value.slice (some ⟨gN, 0, none⟩) (G.length + 4) cN).ownBlock ≠ some b := fun h => by
    have e := blk_eq h
    rcases atN with h1 | h1
    · exact hS.nb (by rw [h1, e])
    · omega
  have hgI : gI < wI.heap.size := by
    rcases atI with h1 | h1
    · have := hIw gI h1; omega
    · exact (ownI.lt gI rfl).2
  have eNew : ∀ g ∈ [(⟨v, k, m⟩ : Grp), ⟨ua, k + 1, m⟩, ⟨ub, k + 2, m⟩, ⟨uc, k + 3, m⟩], Uni wC base 3 g.v g.n m ∧ g.m = m ∧ (g.v.ownBlock ≠ some b ∧ (∀ q, g.v.ownBlock = some q → vI.ownBlock ≠ some q) ∧ (∀ q, g.v.ownBlock = some q → vN.ownBlock ≠ some q)) := by
    intro g hg
    simp only [List.mem_cons, List.not_mem_nil, or_false] at hg
    rcases hg with rfl | rfl | rfl | rfl
    · exact ⟨U0, rfl, aV⟩
    · exact ⟨UA, rfl, aA⟩
    · exact ⟨UB, rfl, aB⟩
    · exact ⟨UC, rfl, aC⟩
  have hall : ∀ g ∈ G ++ [(⟨v, k, m⟩ : Grp), ⟨ua, k + 1, m⟩, ⟨ub, k + 2, m⟩, ⟨uc, k + 3, m⟩], Uni wN base 3 g.v g.n g.m ∧ (g.v.ownBlock ≠ some b ∧ (∀ q, g.v.ownBlock = some q → vI.ownBlock ≠ some q) ∧ (∀ q, g.v.ownBlock = some q → vN.ownBlock ≠ some q)) ∧ (∀ q, g.v.ownBlock = some q → q < wC.heap.size) := by
    intro g hg
    rcases List.mem_append.1 hg with hg | hg
    · exact ⟨t4 g hg, ⟨hS.gb g hg, hS.gi g hg, hS.gn g hg⟩, fun q hq => ((hK.d.each g hg).lt q hq).2⟩
    · obtain ⟨h1, h2, h3⟩ := eNew g hg
      rw [h2]
      exact ⟨t5 g.v g.n h1 h3.1 h3.2.1 h3.2.2, h3, fun q hq => (h1.lt q hq).2⟩
  refine ⟨.slice (some ⟨gI, 0, none⟩) (G.length + 4) cI, .slice (some ⟨gN, 0, none⟩) (G.length + 4) cN, ua, ub, uc, ⟨t1.set 6 _, ?_, ?_, fun g hg => rowSetOther (hall g hg).1 b 6 (hall g hg).2.1.1 _⟩, ⟨gIb, gNb, ?_, fun g hg => (hall g hg).2.1.1, ?_, ?_⟩, ?_, ?_, ?_, nA, nB, nC⟩
  · rw [List.length_append, List.map_append]
    exact rowSetOther t2 b 6 gIb _
  · rw [List.length_append, List.map_append]
    exact rowSetOther ownN b 6 gNb _
  · intro q hq h
    have e := blk_eq hq
    have e' := blk_eq h
    rcases atN with h1 | h1
    · exact gIN q (by rw [h1, e']) hq
    · omega
  · intro g hg q hq h
    have e := blk_eq h
    have hlt := (hall g hg).2.2 q hq
    rcases atI with h1 | h1
    · exact (hall g hg).2.1.2.1 q hq (by rw [h1, e])
    · omega
  · intro g hg q hq h
    have e := blk_eq h
    have hlt := (hall g hg).2.2 q hq
    rcases atN with h1 | h1
    · exact (hall g hg).2.1.2.2 q hq (by rw [h1, e])
    · omega
  · refine Fr.setCell (Fr.grown (Fr.alloc (Fr.setCell (Fr.grown (Fr.alloc hK.f X) grI (fun q hq => .inl (hSI q hq))) _ (.inl hSb) _) Y) grN (fun q hq => .inl (hSN q hq))) _ (.inl hSb) _
  · exact own_or_new szC atI
  · rcases atN with h1 | h1
    · exact .inl h1.symm
    · refine .inr (fun q hq => ?_)
      have e := blk_eq hq
      omega

set_option maxHeartbeats 8000000 in
theorem keep_any (w : World) (base b : Nat) (n : Int) (vI vN : Value) (G : List Grp) (v : Value) (k : Nat) (xs : List Value) (hD : DrwAt w base b n vI vN G) (hv : w.ownsRow base 3 1 v k xs) (hbase : base ≤ w.heap.size)
    (hS : DSep b vI vN G) (hvb : v.ownBlock ≠ some b) (hvI : ∀ q, v.ownBlock = some q → vI.ownBlock ≠ some q) (hvN : ∀ q, v.ownBlock = some q → vN.ownBlock ≠ some q) (hvG : ∀ q, v.ownBlock = some q → ∀ g ∈ G, g.v.ownBlock ≠ some q)
    (hn0 : 0 ≤ n) (hn1 : n < 1073741824) (hG : G.length < 536870912) (hk : k < 536870912) :
    Calls Try.prog 34 #[.pointer (some ⟨b, 0, none⟩), v] w fun e w' => e = .returned (.tuple #[]) ∧ ∃ vI' vN' ua ub uc, DrwAt w' base b (n + 1) vI' vN' (G ++ [⟨v, k, 100 + (n + 1)⟩, ⟨ua, k + 1, 100 + (n + 1)⟩, ⟨ub, k + 2, 100 + (n + 1)⟩, ⟨uc, k + 3, 100 + (n + 1)⟩]) ∧ DSep b vI' vN' (G ++ [⟨v, k, 100 + (n + 1)⟩, ⟨ua, k + 1, 100 + (n + 1)⟩, ⟨ub, k + 2, 100 + (n + 1)⟩, ⟨uc, k + 3, 100 + (n + 1)⟩]) ∧ Fr (b :: (vI.ownBlock.toList ++ vN.ownBlock.toList ++ v.ownBlock.toList)) w w' ∧ (vI'.ownBlock = vI.ownBlock ∨ New w vI') ∧ (vN'.ownBlock = vN.ownBlock ∨ New w vN') ∧ (ua.ownBlock = v.ownBlock ∨ New w ua) ∧ (ub.ownBlock = v.ownBlock ∨ New w ub) ∧ (uc.ownBlock = v.ownBlock ∨ New w uc) := by
  have hbl := hD.blk.lt
  have hxs := hv.1
  obtain ⟨av, cv, rfl⟩ : ∃ av cv, v = .slice av k cv := by obtain ⟨x, y, e, _⟩ := rowG hv; exact ⟨x, y, e⟩
  obtain ⟨aI, cI, rfl⟩ : ∃ aI cI, vI = .slice aI G.length cI := by obtain ⟨x, y, e, _⟩ := rowG hD.ints; exact ⟨x, y, e⟩
  obtain ⟨aN, cN, rfl⟩ : ∃ aN cN, vN = .slice aN G.length cN := by obtain ⟨x, y, e, _⟩ := rowG hD.marks; exact ⟨x, y, e⟩
  obtain ⟨c0, c1, c2, c3, c4, c5, c6⟩ := drw_cells hD.blk
  have hf := hD.blk.frozen
  have D0 : DrwAt (w.setCell ⟨b, 0, none⟩ (.int .i64 (n + 1))) base b (n + 1) (.slice aI G.length cI) (.slice aN G.length cN) G :=
    ⟨hD.blk.set 0 _, rowSetOther hD.ints b 0 hS.ib _, rowSetOther hD.marks b 0 hS.nb _, fun g hm => rowSetOther (hD.each g hm) b 0 (hS.gb g hm) _⟩
  have r0 := rowSetOther hv b 0 hvb (.int .i64 (n + 1))
  have f0 : Fr [b] w (w.setCell ⟨b, 0, none⟩ (.int .i64 (n + 1))) := fr_set _ _ _ (Fr.refl _ _)
  have s0 : (w.setCell ⟨b, 0, none⟩ (.int .i64 (n + 1))).heap.size = w.heap.size := by simp
  have HS : Hid (DSep b (.slice aI G.length cI) (.slice aN G.length cN) G) := hS
  have HLT : Hid ((∀ q, (Value.slice aI G.length cI).ownBlock = some q → q < w.heap.size) ∧ (∀ q, (Value.slice aN G.length cN).ownBlock = some q → q < w.heap.size)) := ⟨fun q hq => (hD.ints.lt q hq).2, fun q hq => (hD.marks.lt q hq).2⟩
  have HV : Hid ((Value.slice av k cv).ownBlock ≠ some b ∧ (∀ q, (Value.slice av k cv).ownBlock = some q → (Value.slice aI G.length cI).ownBlock ≠ some q) ∧ (∀ q, (Value.slice av k cv).ownBlock = some q → (Value.slice aN G.length cN).ownBlock ≠ some q) ∧ (∀ q, (Value.slice av k cv).ownBlock = some q → ∀ g ∈ G, g.v.ownBlock ≠ some q)) := ⟨hvb, hvI, hvN, hvG⟩
  clear hD hv hS hvb hvI hvN hvG
  go_enter Try.func34, Try.ntmps34
  go_wp2_with fail
  generalize w.setCell ⟨b, 0, none⟩ (.int .i64 (n + 1)) = W0 at *
  clear c0 c1 c2 c3 c4 c5 c6 hf
  go_loopw [5] (fun x wr => ∃ i : Nat, x = .int .i64 i ∧ i ≤ k ∧ wr.ownsRow base 3 1 (.slice av k cv) k (List.replicate i (.int .i64 (100 + (n + 1))) ++ xs.drop i) ∧ W0.grownBy wr (Value.slice av k cv).ownBlock) (fun x _ => k - (intOf x).toNat)
  case atStart => exact ⟨0, rfl, Nat.zero_le _, by simpa using r0, ⟨rfl, rfl, rfl, Nat.le_refl _, fun _ _ _ => rfl⟩⟩
  case round =>
    obtain ⟨i, rfl, hi, hown, hgr⟩ := hrel
    by_cases hlt : i < k
    · obtain ⟨a2, c2, e2, _, _, hcell⟩ := rowG hown
      obtain ⟨g, e3, hbg, hgl, d0, hfz⟩ := hcell i xs[i] (by rw [List.getElem?_append_right (by simp)]; simp)
      have e4 : av = some ⟨g, 0, none⟩ := by
        simp only [Value.slice.injEq] at e2
        rw [e2.1, e3]
      subst e4
      have HST := hown.stored i (.int .i64 (100 + (n + 1)))
      rw [repl_set _ _ _ (by omega)] at HST
      have HST2 : Hid ((wr.setCell ⟨g, i, none⟩ (.int .i64 (100 + (n + 1)))).ownsRow base 3 1 (.slice (some ⟨g, 0, none⟩) k cv) k (List.replicate (i + 1) (.int .i64 (100 + (n + 1))) ++ xs.drop (i + 1)) ∧ W0.grownBy (wr.setCell ⟨g, i, none⟩ (.int .i64 (100 + (n + 1)))) (Value.slice (some ⟨g, 0, none⟩) k cv).ownBlock) :=
        ⟨HST.1, ⟨HST.2.os.trans hgr.os, HST.2.tape.trans hgr.tape, HST.2.output.trans hgr.output, Nat.le_trans hgr.size HST.2.size, fun j hj hne => (HST.2.block j (Nat.lt_of_lt_of_le hj hgr.size) hne).trans (hgr.block j hj hne)⟩⟩
      generalize xs[i] = xi at *
      clear hcell e2 e3 HST hown hgr
      go_wp2_with fail
      exact ⟨⟨i + 1, by go_num, hlt, HST2.out.1, HST2.out.2⟩, by simp [intOf]; omega⟩
    · obtain rfl : i = k := by omega
      have U0 : Uni wr base 3 (.slice av i cv) i (100 + (n + 1)) := by
        rw [List.drop_eq_nil_of_le (by omega), List.append_nil] at hown
        exact hown
      have D1 := D0.grown hgr HV.out.1 HV.out.2.1 HV.out.2.2.1 HV.out.2.2.2
      have hsz1 := hgr.size
      have HIN : Hid (∀ q, (Value.slice av i cv).ownBlock = some q → q ∈ b :: ((Value.slice aI G.length cI).ownBlock.toList ++ (Value.slice aN G.length cN).ownBlock.toList ++ (Value.slice av i cv).ownBlock.toList)) := fun q hq => by simp [hq]
      have K0 : KS w wr base b (n + 1) (.slice aI G.length cI) (.slice aN G.length cN) (.slice av i cv) G (b :: ((Value.slice aI G.length cI).ownBlock.toList ++ (Value.slice aN G.length cN).ownBlock.toList ++ (Value.slice av i cv).ownBlock.toList)) :=
        ⟨D1, Fr.grown (f0.mono (fun q _ hq => by simp at hq; simp [hq])) hgr (fun q hq => .inl (HIN.out q hq)), hbase⟩
      clear hown hgr D0 D1 f0
      go_wp2_with (first
        | (at_builtin; refine wpList_uni _ rfl (.tmp 31) (.tmp 33) 30 rfl base 3 Try.underlying30 Try.infoInt (.slice av i cv) i (100 + (n + 1)) rfl (U0.alloc _) wr.heap.size 1 3 rfl (by exact at_alloc wr _ _) (by decide) (by omega) (by simp; omega) ?_; intro gA cA wA UA grA atA kpA; have KA := K0.uni grA HV.out HIN.out; have szA := grA.size; rw [World.size_alloc] at szA; have V1 := kpA _ _ (U0.alloc _); clear kpA grA)
        | (at_builtin; refine wpList_uni _ rfl (.tmp 35) (.tmp 38) 30 rfl base 3 Try.underlying30 Try.infoInt (.slice av i cv) i (100 + (n + 1)) rfl (V1.alloc _) wA.heap.size 2 3 rfl (by exact at_alloc wA _ _) (by decide) (by omega) (by simp; omega) ?_; intro gB cB wB UB grB atB kpB; have KB := KA.uni grB HV.out HIN.out; have szB := grB.size; rw [World.size_alloc] at szB; have V2 := kpB _ _ (V1.alloc _); have UA2 := kpB _ _ (UA.alloc _); clear kpB grB)
        | (at_builtin; refine wpList_uni _ rfl (.tmp 40) (.tmp 44) 30 rfl base 3 Try.underlying30 Try.infoInt (.slice av i cv) i (100 + (n + 1)) rfl (V2.alloc _) wB.heap.size 3 3 rfl (by exact at_alloc wB _ _) (by decide) (by omega) (by simp; omega) ?_; intro gC cC wC UC grC atC kpC; have KC := KB.uni grC HV.out HIN.out; have szC := grC.size; rw [World.size_alloc] at szC; have V3 := kpC _ _ (V2.alloc _); have UA3 := kpC _ _ (UA2.alloc _); have UB3 := kpC _ _ (UB.alloc _); clear kpC grC; obtain ⟨x0, x1, x2, x3, x4, x5, x6⟩ := drw_cells KC.d.blk; have hfC := KC.d.blk.frozen; have hbC := KC.d.blk.lt)
        | (at_builtin; refine wpList_app4s _ rfl (.tmp 50) (.tmp 55) 28 rfl base 30 (.slice none 0 0) 24 Try.underlying28 Try.infoInts rfl (by decide) (.slice aI G.length cI) G.length (G.map Grp.v) rfl (KC.d.ints.alloc _) wC.heap.size (.slice av i cv) (.slice (some ⟨gA, 0, none⟩) (i + 1) cA) (.slice (some ⟨gB, 0, none⟩) (i + 2) cB) (.slice (some ⟨gC, 0, none⟩) (i + 3) cC) 30 rfl (by exact at_alloc wC _ _) (fun u hu => by simp only [List.mem_cons, List.not_mem_nil, or_false] at hu; rcases hu with rfl | rfl | rfl | rfl <;> rfl) (by omega) (by simp; omega) ?_; intro gI cI2 wI ownI grI atI; have aI2 := (KC.d.blk.alloc _).grown grI HS.out.ib; have hfI := aI2.frozen; have hbI := aI2.lt; have szI := grI.size; rw [World.size_alloc] at szI; obtain ⟨y0, y1, y2, y3, y4, y5, y6⟩ := drw_cells aI2; clear x0 x1 x2 x3 x4 x5 x6 hfC; have mI := rowSetOther (kept_of (KC.d.marks.alloc _) grI (fun q hq => HS.out.i_n q hq)) b 3 HS.out.nb (.slice (some ⟨gI, 0, none⟩) (G.length + 4) cI2))
        | (at_builtin; refine wpList_app4s _ rfl (.tmp 63) (.tmp 68) 30 rfl base 3 (.int .i64 0) 8 Try.underlying30 Try.infoInt rfl (by decide) (.slice aN G.length cN) G.length (G.map fun g => .int .i64 g.m) rfl (mI.alloc _) wI.heap.size (.int .i64 (100 + (n + 1))) (.int .i64 (100 + (n + 1))) (.int .i64 (100 + (n + 1))) (.int .i64 (100 + (n + 1))) 3 rfl (by have := at_alloc (wI.setCell ⟨b, 3, none⟩ (.slice (some ⟨gI, 0, none⟩) (G.length + 4) cI2)) #[.int .i64 (100 + (n + 1)), .int .i64 (100 + (n + 1)), .int .i64 (100 + (n + 1)), .int .i64 (100 + (n + 1))] 3; rw [World.size_setCell] at this; exact this) (fun u hu => by simp only [List.mem_cons, List.not_mem_nil, or_false] at hu; rcases hu with rfl | rfl | rfl | rfl <;> rfl) (by omega) (by simp; omega) ?_; intro gN cN2 wN ownN grN atN; have aN2 := ((aI2.set 3 _).alloc _).grown grN HS.out.nb; have hfN := aN2.frozen; have hbN := aN2.lt; have z6 : wN.cell? ⟨b, 6, none⟩ = some (.slice aN G.length cN) := aN2.cell 6))
      go_end0
      exact ⟨rfl, keep_fin KC HS.out HV.out hbl HLT.out.1 HLT.out.2 (by simp) (fun q hq => by simp [hq]) (fun q hq => by simp [hq]) V3 UA3 UB3 UC (own_or_new (by omega) atA) (own_or_new (by omega) atB) (own_or_new (by omega) atC) ownI grI atI ownN grN atN⟩

end Go.Proofs.Ytjgnheelcbkahaa.dk
