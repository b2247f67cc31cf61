/-
  PLAIN: steps of the shelf.
-/
import Derived.Test.YtjgnheelcbkahaaDkT
namespace Go.Proofs.Ytjgnheelcbkahaa.dk
open Go.RowKit

section
variable {w w' : World} {base bS bD : Nat} {vL : Value} {n : Int} {vI vN : Value} {G : List Grp} {E : List Ent} {tag : Nat → Nat}

theorem All.disk {i : Nat} {e : Ent} {vs' vn' vl' : Value} {D' : Dsk} (h : All w base bS bD vL n vI vN G E tag) (he : E[i]? = some e) (hD : DiskAt w' base e.b vs' vn' vl' D') (hf : Fr (e.b :: e.vl.ownBlock.toList) w w')
    (hs : ∀ k, vs'.ownBlock = some k → k < w.heap.size → tag k = 5) (hn : ∀ k, vn'.ownBlock = some k → k < w.heap.size → tag k = 5) (hl : ∀ k, vl'.ownBlock = some k → k < w.heap.size → tag k = 11 + 4 * i)
    (hsep : ∀ k, vl'.ownBlock = some k → w.heap.size ≤ k → vs'.ownBlock ≠ some k ∧ vn'.ownBlock ≠ some k) :
    ∃ tag', All w' base bS bD vL n vI vN G (E.set i { e with vs := vs', vn := vn', vl := vl', D := D' }) tag' := by
  have hok := h.ents i e he
  refine ⟨fun k => if k < w.heap.size then tag k else if vl'.ownBlock = some k then 11 + 4 * i else 5, ?_⟩
  refine h.set he hf ?_ (fun k hk => if_pos hk) (hok.diskTo hD hf _ (fun k hk => if_pos hk) ?_ ?_ ?_) rfl rfl
  · intro k hk
    rcases List.mem_cons.1 hk with rfl | hk
    · exact .inl hok.tb
    · exact .inr (.inl (hok.tl k (by simpa using hk)))
  · intro k hk
    by_cases hlt : k < w.heap.size
    · simp only [if_pos hlt]; exact hs k hk hlt
    · simp only [if_neg hlt]
      rw [if_neg (fun h2 => (hsep k h2 (by omega)).1 hk)]
  · intro k hk
    by_cases hlt : k < w.heap.size
    · simp only [if_pos hlt]; exact hn k hk hlt
    · simp only [if_neg hlt]
      rw [if_neg (fun h2 => (hsep k h2 (by omega)).2 hk)]
  · intro k hk
    by_cases hlt : k < w.heap.size
    · simp only [if_pos hlt]; exact hl k hk hlt
    · simp only [if_neg hlt]
      rw [if_pos hk]

theorem All.ref {i : Nat} {e : Ent} {vd' : Value} {R' : Rsk} (h : All w base bS bD vL n vI vN G E tag) (he : E[i]? = some e) (hR : At w' e.r (refCells vd' R'.s R'.left R'.down R'.steps) 68) (hd : w'.ownsRow base 73 4 vd' R'.l.length (cellsOf R'.l)) (hf : Fr (e.r :: e.vd.ownBlock.toList) w w')
    (hl : ∀ k, vd'.ownBlock = some k → k < w.heap.size → tag k = 13 + 4 * i) :
    ∃ tag', All w' base bS bD vL n vI vN G (E.set i { e with vd := vd', R := R' }) tag' := by
  have hok := h.ents i e he
  refine ⟨fun k => if k < w.heap.size then tag k else 13 + 4 * i, ?_⟩
  refine h.set he hf ?_ (fun k hk => if_pos hk) (hok.refTo hR hd hf _ (fun k hk => if_pos hk) ?_) rfl rfl
  · intro k hk
    rcases List.mem_cons.1 hk with rfl | hk
    · exact .inr (.inr (.inl hok.tr))
    · exact .inr (.inr (.inr (hok.td k (by simpa using hk))))
  · intro k hk
    by_cases hlt : k < w.heap.size
    · simp only [if_pos hlt]; exact hl k hk hlt
    · simp only [if_neg hlt]

/-- one entry more: its blocks are new, but for rows that nobody writes -/
theorem All.add {vL' : Value} {e : Ent} (h : All w base bS bD vL n vI vN G E tag) (hf : Fr (bS :: vL.ownBlock.toList) w w')
    (hsh : At w' bS #[vL', .pointer (some ⟨bD, 0, none⟩)] 35) (hlist : w'.ownsRow base 53 2 vL' (E ++ [e]).length ((E ++ [e]).flatMap entCells))
    (hD : DiskAt w' base e.b e.vs e.vn e.vl e.D) (hR : At w' e.r (refCells e.vd e.R.s e.R.left e.R.down e.R.steps) 68) (hd : w'.ownsRow base 73 4 e.vd e.R.l.length (cellsOf e.R.l))
    (hbase : base ≤ w.heap.size) (hb : w.heap.size ≤ e.b) (hr : w.heap.size ≤ e.r) (hbr : e.b ≠ e.r) (hl : e.vl = .slice none 0 0)
    (hs : ∀ k, e.vs.ownBlock = some k → (k < w.heap.size → tag k = 5) ∧ k ≠ e.b ∧ k ≠ e.r) (hn : ∀ k, e.vn.ownBlock = some k → (k < w.heap.size → tag k = 5) ∧ k ≠ e.b ∧ k ≠ e.r)
    (hvd : ∀ k, e.vd.ownBlock = some k → w.heap.size ≤ k ∧ k ≠ e.b ∧ k ≠ e.r ∧ e.vs.ownBlock ≠ some k ∧ e.vn.ownBlock ≠ some k)
    (hL : ∀ k, vL'.ownBlock = some k → vL.ownBlock = some k ∨ w.heap.size ≤ k ∧ k ≠ e.b ∧ k ≠ e.r ∧ e.vs.ownBlock ≠ some k ∧ e.vn.ownBlock ≠ some k ∧ e.vd.ownBlock ≠ some k) :
    ∃ tag', All w' base bS bD vL' n vI vN G (E ++ [e]) tag' := by
  have hc := h.core
  have hS : ∀ k ∈ bS :: vL.ownBlock.toList, tag k = 0 ∨ tag k = 1 := by
    intro k hk
    rcases List.mem_cons.1 hk with rfl | hk
    · exact .inl hc.tS
    · exact .inr (hc.tL k (by simpa using hk))
  obtain ⟨tag', htag⟩ : ∃ tag' : Nat → Nat, tag' = fun k => if k < w.heap.size then tag k else if k = e.b then 10 + 4 * E.length else if k = e.r then 12 + 4 * E.length else if e.vd.ownBlock = some k then 13 + 4 * E.length else if vL'.ownBlock = some k then 1 else 5 := ⟨_, rfl⟩
  have t0 : ∀ k, k < w.heap.size → tag' k = tag k := fun k hk => by rw [htag]; exact if_pos hk
  have tb : tag' e.b = 10 + 4 * E.length := by rw [htag]; simp only; rw [if_neg (by omega), if_pos trivial]
  have tr : tag' e.r = 12 + 4 * E.length := by rw [htag]; simp only; rw [if_neg (by omega), if_neg (fun h => hbr h.symm), if_pos trivial]
  have td : ∀ k, e.vd.ownBlock = some k → tag' k = 13 + 4 * E.length := fun k hk => by
    have h1 := hvd k hk
    rw [htag]; simp only; rw [if_neg (by omega), if_neg h1.2.1, if_neg h1.2.2.1, if_pos hk]
  have t5 : ∀ k, w.heap.size ≤ k → k ≠ e.b → k ≠ e.r → e.vd.ownBlock ≠ some k → vL'.ownBlock ≠ some k → tag' k = 5 := fun k h0 h1 h2 h3 h4 => by
    rw [htag]; simp only; rw [if_neg (by omega), if_neg h1, if_neg h2, if_neg h3, if_neg h4]
  have row5 : ∀ v : Value, (∀ k, v.ownBlock = some k → (k < w.heap.size → tag k = 5) ∧ k ≠ e.b ∧ k ≠ e.r) → (∀ k, e.vd.ownBlock = some k → v.ownBlock ≠ some k) → (∀ k, vL'.ownBlock = some k → w.heap.size ≤ k → v.ownBlock ≠ some k) → OwnT tag' v 5 := by
    intro v h1 h2 h3 k hk
    by_cases hlt : k < w.heap.size
    · rw [t0 k hlt]; exact (h1 k hk).1 hlt
    · exact t5 k (by omega) (h1 k hk).2.1 (h1 k hk).2.2 (fun h4 => h2 k h4 hk) (fun h4 => h3 k h4 (by omega) hk)
  have hLold : ∀ k, vL.ownBlock = some k → k < w.heap.size := fun k hk => (hc.list.lt k hk).2
  refine ⟨tag', ⟨hsh, hlist, hc.drw.fr hf (fun hm => by have := hS _ hm; have := hc.tD; omega) (fun k hk hm => by have := hS _ hm; have := hc.tI k hk; omega) (fun k hk hm => by have := hS _ hm; have := hc.tN k hk; omega) (fun g hg k hk hm => by have := hS _ hm; have := hc.tG g hg k hk; omega), ?_, ?_, ?_, ?_, ?_, ?_, hc.lS, hc.lD⟩, ?_⟩
  · rw [t0 _ hc.shelf.lt]; exact hc.tS
  · intro k hk
    rcases hL k hk with h1 | ⟨h1, h2, h3, h4, h5, h6⟩
    · rw [t0 k (hLold k h1)]; exact hc.tL k h1
    · rw [htag]; simp only; rw [if_neg (by omega), if_neg h2, if_neg h3, if_neg h6, if_pos hk]
  · rw [t0 _ hc.drw.blk.lt]; exact hc.tD
  · exact hc.tI.mono (fun k hk => (hc.drw.ints.lt k hk).2) t0
  · exact hc.tN.mono (fun k hk => (hc.drw.marks.lt k hk).2) t0
  · exact fun g hg => (hc.tG g hg).mono (fun k hk => ((hc.drw.each g hg).lt k hk).2) t0
  · intro j x hx
    by_cases hj : j < E.length
    · rw [List.getElem?_append_left hj] at hx
      exact (h.ents j x hx).mono hf (fun k hk => by have := hS k hk; omega) t0
    · rw [List.getElem?_append_right (by omega)] at hx
      have hj2 : j - E.length = 0 := by
        have := (List.getElem?_eq_some_iff.1 hx).1
        simp at this
        omega
      rw [hj2] at hx
      simp at hx
      subst hx
      have hje : j = E.length := by omega
      subst hje
      refine ⟨hD, hR, hd, tb, ?_, tr, td, ?_, ?_, by omega, by omega⟩
      · rw [hl]; intro k hk; simp [Value.ownBlock] at hk
      · exact row5 e.vs hs (fun k hk => (hvd k hk).2.2.2.1) (fun k hk hge => by
          rcases hL k hk with h1 | h1
          · have := hLold k h1; omega
          · exact h1.2.2.2.1)
      · exact row5 e.vn hn (fun k hk => (hvd k hk).2.2.2.2) (fun k hk hge => by
          rcases hL k hk with h1 | h1
          · have := hLold k h1; omega
          · exact h1.2.2.2.2.1)

/-- the drawer has taken a list -/
theorem All.keep {vI' vN' : Value} {n' : Int} {G' : List Grp} (h : All w base bS bD vL n vI vN G E tag) (hf : Fr (bD :: (vI.ownBlock.toList ++ vN.ownBlock.toList)) w w')
    (hD : DrwAt w' base bD n' vI' vN' G') (hsep : DSep bD vI' vN' G') (hI : vI'.ownBlock = vI.ownBlock ∨ New w vI') (hN : vN'.ownBlock = vN.ownBlock ∨ New w vN') (hG : ∀ g ∈ G', g ∈ G ∨ New w g.v) :
    ∃ tag', All w' base bS bD vL n' vI' vN' G' E tag' := by
  have hc := h.core
  have hS : ∀ k ∈ bD :: (vI.ownBlock.toList ++ vN.ownBlock.toList), tag k = 2 ∨ tag k = 3 ∨ tag k = 4 := by
    intro k hk
    rcases List.mem_cons.1 hk with rfl | hk
    · exact .inl hc.tD
    · rcases List.mem_append.1 hk with hk | hk
      · exact .inr (.inl (hc.tI k (by simpa using hk)))
      · exact .inr (.inr (hc.tN k (by simpa using hk)))
  obtain ⟨tag', htag⟩ : ∃ tag' : Nat → Nat, tag' = fun k => if k < w.heap.size then tag k else if vI'.ownBlock = some k then 3 else if vN'.ownBlock = some k then 4 else 5 := ⟨_, rfl⟩
  have t0 : ∀ k, k < w.heap.size → tag' k = tag k := fun k hk => by rw [htag]; exact if_pos hk
  refine ⟨tag', ⟨?_, ?_, hD, ?_, ?_, ?_, ?_, ?_, ?_, hc.lS, hc.lD⟩, ?_⟩
  · exact hf.at hc.shelf (fun hm => by have := hS _ hm; have := hc.tS; omega)
  · exact hf.row hc.list (fun k hk hm => by have := hS _ hm; have := hc.tL k hk; omega)
  · rw [t0 _ hc.shelf.lt]; exact hc.tS
  · exact hc.tL.mono (fun k hk => (hc.list.lt k hk).2) t0
  · rw [t0 _ hc.drw.blk.lt]; exact hc.tD
  · intro k hk
    rcases hI with h1 | h1
    · have h2 : vI.ownBlock = some k := by rw [← h1]; exact hk
      rw [t0 k (hc.drw.ints.lt k h2).2]; exact hc.tI k h2
    · have := h1 k hk
      rw [htag]; simp only; rw [if_neg (by omega), if_pos hk]
  · intro k hk
    rcases hN with h1 | h1
    · have h2 : vN.ownBlock = some k := by rw [← h1]; exact hk
      rw [t0 k (hc.drw.marks.lt k h2).2]; exact hc.tN k h2
    · have := h1 k hk
      rw [htag]; simp only; rw [if_neg (by omega), if_neg (fun h2 => hsep.i_n k h2 hk), if_pos hk]
  · intro g hg k hk
    rcases hG g hg with h1 | h1
    · rw [t0 k ((hc.drw.each g h1).lt k hk).2]; exact hc.tG g h1 k hk
    · have := h1 k hk
      rw [htag]; simp only; rw [if_neg (by omega), if_neg (hsep.gi g hg k hk), if_neg (hsep.gn g hg k hk)]
  · exact fun i e he => (h.ents i e he).mono hf (fun k hk => by have := hS k hk; omega) t0
end

/-- the shelf behind at most N acts -/
def St (w : World) (base bS bD N : Nat) : Prop := ∃ vL n vI vN G E tag, All w base bS bD vL n vI vN G E tag ∧ (∀ e ∈ E, Sim e.D e.R ∧ Small N e) ∧ E.length ≤ N ∧ G.length ≤ 4 * N ∧ (∀ g ∈ G, g.n ≤ 12) ∧ 0 ≤ n ∧ n ≤ N ∧ base ≤ w.heap.size

theorem Small.mono {N M : Nat} {e : Ent} (h : Small N e) (hm : N ≤ M) : Small M e :=
  ⟨Nat.le_trans h.sl hm, h.nn, Nat.le_trans h.d hm, h.t0, by have := h.t1; omega, h.left⟩

theorem St.fr {w w' : World} {base bS bD N : Nat} (h : St w base bS bD N) (hf : Fr [] w w') : St w' base bS bD (N + 1) := by
  obtain ⟨vL, n, vI, vN, G, E, tag, h1, h2, h3, h4, h5, h6, h7, h8⟩ := h
  exact ⟨vL, n, vI, vN, G, E, tag, h1.fr hf, fun e he => ⟨(h2 e he).1, (h2 e he).2.mono (by omega)⟩, by omega, by omega, h5, h6, by omega, Nat.le_trans h8 hf.size⟩

theorem Fr.belowS {w w' : World} {S : List Nat} {base : Nat} (h : Fr S w w') (hb : base ≤ w.heap.size) (hS : ∀ k ∈ S, base ≤ k) : Below base w w' :=
  ⟨h.os, h.tape, h.output, h.size, fun k hk => h.block k (by omega) (fun hm => by have := hS k hm; omega)⟩

theorem mem_set {E : List Ent} {i : Nat} {e x : Ent} (h : x ∈ E.set i e) : x ∈ E ∨ x = e := List.mem_or_eq_of_mem_set h

end Go.Proofs.Ytjgnheelcbkahaa.dk
