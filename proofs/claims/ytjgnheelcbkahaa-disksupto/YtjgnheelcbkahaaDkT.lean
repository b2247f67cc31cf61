/-
  PLAIN: the shelf in memory: which block belongs to whom.
-/
import Derived.Test.YtjgnheelcbkahaaDkS
namespace Go.Proofs.Ytjgnheelcbkahaa.dk
open Go.RowKit

/-- a disk of the shelf, and the document's -/
structure Ent where
  b : Nat
  vs : Value
  vn : Value
  vl : Value
  D : Dsk
  r : Nat
  vd : Value
  R : Rsk

def OwnT (tag : Nat → Nat) (v : Value) (t : Nat) : Prop := ∀ k, v.ownBlock = some k → tag k = t

def entCells (e : Ent) : List Value := [.pointer (some ⟨e.b, 0, none⟩), .pointer (some ⟨e.r, 0, none⟩)]

/-- 0 the shelf, 1 its list, 2 the drawer, 3 and 4 its rows, 5 what nobody writes any more, from 10 on four for each entry -/
structure Core (w : World) (base bS bD : Nat) (vL : Value) (n : Int) (vI vN : Value) (G : List Grp) (E : List Ent) (tag : Nat → Nat) : Prop where
  shelf : At w bS #[vL, .pointer (some ⟨bD, 0, none⟩)] 35
  list : w.ownsRow base 53 2 vL E.length (E.flatMap entCells)
  drw : DrwAt w base bD n vI vN G
  tS : tag bS = 0
  tL : OwnT tag vL 1
  tD : tag bD = 2
  tI : OwnT tag vI 3
  tN : OwnT tag vN 4
  tG : ∀ g ∈ G, OwnT tag g.v 5
  lS : base ≤ bS
  lD : base ≤ bD

structure EntOk (w : World) (base : Nat) (tag : Nat → Nat) (i : Nat) (e : Ent) : Prop where
  disk : DiskAt w base e.b e.vs e.vn e.vl e.D
  ref : At w e.r (refCells e.vd e.R.s e.R.left e.R.down e.R.steps) 68
  deeds : w.ownsRow base 73 4 e.vd e.R.l.length (cellsOf e.R.l)
  tb : tag e.b = 10 + 4 * i
  tl : OwnT tag e.vl (11 + 4 * i)
  tr : tag e.r = 12 + 4 * i
  td : OwnT tag e.vd (13 + 4 * i)
  ts : OwnT tag e.vs 5
  tn : OwnT tag e.vn 5
  lb : base ≤ e.b
  lr : base ≤ e.r

theorem OwnT.mono {tag tag' : Nat → Nat} {v : Value} {t B : Nat} (h : OwnT tag v t) (hl : ∀ k, v.ownBlock = some k → k < B) (ht : ∀ k, k < B → tag' k = tag k) : OwnT tag' v t :=
  fun k hk => (ht k (hl k hk)).trans (h k hk)
theorem OwnT.out {tag : Nat → Nat} {v : Value} {t k : Nat} {S : List Nat} (h : OwnT tag v t) (hk : v.ownBlock = some k) (hS : ∀ k ∈ S, tag k ≠ t) : k ∉ S := fun hm => hS k hm (h k hk)

theorem DrwAt.fr {w w' : World} {base b : Nat} {n : Int} {vI vN : Value} {G : List Grp} {S : List Nat} (h : DrwAt w base b n vI vN G) (hf : Fr S w w') (hb : b ∉ S) (hI : ∀ k, vI.ownBlock = some k → k ∉ S) (hN : ∀ k, vN.ownBlock = some k → k ∉ S) (hG : ∀ g ∈ G, ∀ k, g.v.ownBlock = some k → k ∉ S) : DrwAt w' base b n vI vN G :=
  ⟨hf.at h.blk hb, hf.row h.ints hI, hf.row h.marks hN, fun g hg => hf.row (h.each g hg) (hG g hg)⟩

theorem Core.mono {w w' : World} {base bS bD : Nat} {vL : Value} {n : Int} {vI vN : Value} {G : List Grp} {E : List Ent} {tag tag' : Nat → Nat} {S : List Nat} (h : Core w base bS bD vL n vI vN G E tag) (hf : Fr S w w') (hS : ∀ k ∈ S, 5 < tag k) (ht : ∀ k, k < w.heap.size → tag' k = tag k) : Core w' base bS bD vL n vI vN G E tag' := by
  have hn : ∀ t, t ≤ 5 → ∀ k ∈ S, tag k ≠ t := fun t ht k hk => by have := hS k hk; omega
  refine ⟨hf.at h.shelf (fun hm => hn 0 (by decide) _ hm h.tS), hf.row h.list (fun k hk => h.tL.out hk (hn 1 (by decide))), h.drw.fr hf (fun hm => hn 2 (by decide) _ hm h.tD) (fun k hk => h.tI.out hk (hn 3 (by decide))) (fun k hk => h.tN.out hk (hn 4 (by decide))) (fun g hg k hk => (h.tG g hg).out hk (hn 5 (by decide))), ?_, ?_, ?_, ?_, ?_, ?_, h.lS, h.lD⟩
  · rw [ht _ h.shelf.lt]; exact h.tS
  · exact h.tL.mono (fun k hk => (h.list.lt k hk).2) ht
  · rw [ht _ h.drw.blk.lt]; exact h.tD
  · exact h.tI.mono (fun k hk => (h.drw.ints.lt k hk).2) ht
  · exact h.tN.mono (fun k hk => (h.drw.marks.lt k hk).2) ht
  · exact fun g hg => (h.tG g hg).mono (fun k hk => ((h.drw.each g hg).lt k hk).2) ht

theorem EntOk.mono {w w' : World} {base : Nat} {tag tag' : Nat → Nat} {i : Nat} {e : Ent} {S : List Nat} (h : EntOk w base tag i e) (hf : Fr S w w') (hS : ∀ k ∈ S, tag k ≠ 5 ∧ tag k ≠ 10 + 4 * i ∧ tag k ≠ 11 + 4 * i ∧ tag k ≠ 12 + 4 * i ∧ tag k ≠ 13 + 4 * i) (ht : ∀ k, k < w.heap.size → tag' k = tag k) : EntOk w' base tag' i e := by
  refine ⟨⟨hf.at h.disk.blk (fun hm => (hS _ hm).2.1 h.tb), hf.row h.disk.safe (fun k hk => h.ts.out hk (fun k hm => (hS k hm).1)), hf.row h.disk.now (fun k hk => h.tn.out hk (fun k hm => (hS k hm).1)), hf.row h.disk.loose (fun k hk => h.tl.out hk (fun k hm => (hS k hm).2.2.1))⟩,
    hf.at h.ref (fun hm => (hS _ hm).2.2.2.1 h.tr), hf.row h.deeds (fun k hk => h.td.out hk (fun k hm => (hS k hm).2.2.2.2)), ?_, ?_, ?_, ?_, ?_, ?_, h.lb, h.lr⟩
  · rw [ht _ h.disk.blk.lt]; exact h.tb
  · exact h.tl.mono (fun k hk => (h.disk.loose.lt k hk).2) ht
  · rw [ht _ h.ref.lt]; exact h.tr
  · exact h.td.mono (fun k hk => (h.deeds.lt k hk).2) ht
  · exact h.ts.mono (fun k hk => (h.disk.safe.lt k hk).2) ht
  · exact h.tn.mono (fun k hk => (h.disk.now.lt k hk).2) ht

theorem own_ne {tag : Nat → Nat} {v : Value} {t b : Nat} (h : OwnT tag v t) (hb : tag b ≠ t) : v.ownBlock ≠ some b := fun h2 => hb (h b h2)
theorem own_ne2 {tag : Nat → Nat} {v u : Value} {t t' : Nat} (h : OwnT tag v t) (h' : OwnT tag u t') (hn : t ≠ t') : ∀ k, v.ownBlock = some k → u.ownBlock ≠ some k := fun k hk hu => hn ((h k hk).symm.trans (h' k hu))

theorem EntOk.sep {w : World} {base : Nat} {tag : Nat → Nat} {i : Nat} {e : Ent} (h : EntOk w base tag i e) : Sep e.b e.vs e.vn e.vl :=
  ⟨own_ne h.ts (by have := h.tb; omega), own_ne h.tn (by have := h.tb; omega), own_ne h.tl (by have := h.tb; omega), own_ne2 h.tl h.ts (by omega), own_ne2 h.tl h.tn (by omega)⟩
theorem EntOk.dsep {w : World} {base : Nat} {tag : Nat → Nat} {i : Nat} {e : Ent} (h : EntOk w base tag i e) : e.vd.ownBlock ≠ some e.r :=
  own_ne h.td (by have := h.tr; omega)
theorem Core.dsep {w : World} {base bS bD : Nat} {vL : Value} {n : Int} {vI vN : Value} {G : List Grp} {E : List Ent} {tag : Nat → Nat} (h : Core w base bS bD vL n vI vN G E tag) : DSep bD vI vN G :=
  ⟨own_ne h.tI (by have := h.tD; omega), own_ne h.tN (by have := h.tD; omega), own_ne2 h.tI h.tN (by decide), fun g hg => own_ne (h.tG g hg) (by have := h.tD; omega), fun g hg => own_ne2 (h.tG g hg) h.tI (by decide), fun g hg => own_ne2 (h.tG g hg) h.tN (by decide)⟩

/-- the disk of an entry has changed -/
theorem EntOk.diskTo {w w' : World} {base : Nat} {tag : Nat → Nat} {i : Nat} {e : Ent} {vs' vn' vl' : Value} {D' : Dsk} (h : EntOk w base tag i e) (hD : DiskAt w' base e.b vs' vn' vl' D') (hf : Fr (e.b :: e.vl.ownBlock.toList) w w')
    (tag' : Nat → Nat) (ht : ∀ k, k < w.heap.size → tag' k = tag k) (hs : OwnT tag' vs' 5) (hn : OwnT tag' vn' 5) (hl : OwnT tag' vl' (11 + 4 * i)) : EntOk w' base tag' i { e with vs := vs', vn := vn', vl := vl', D := D' } := by
  have hS : ∀ k ∈ e.b :: e.vl.ownBlock.toList, tag k = 10 + 4 * i ∨ tag k = 11 + 4 * i := by
    intro k hk
    rcases List.mem_cons.1 hk with rfl | hk
    · exact .inl h.tb
    · exact .inr (h.tl k (by simpa using hk))
  have hr := hf.at h.ref (fun hm => by have := hS _ hm; have := h.tr; omega)
  refine ⟨hD, hr, hf.row h.deeds (fun k hk hm => by have := hS _ hm; have := h.td k hk; omega), ?_, hl, ?_, ?_, hs, hn, h.lb, h.lr⟩
  · show tag' e.b = _
    rw [ht _ h.disk.blk.lt]; exact h.tb
  · show tag' e.r = _
    rw [ht _ h.ref.lt]; exact h.tr
  · exact h.td.mono (fun k hk => (h.deeds.lt k hk).2) ht

/-- the document's disk of an entry has changed -/
theorem EntOk.refTo {w w' : World} {base : Nat} {tag : Nat → Nat} {i : Nat} {e : Ent} {vd' : Value} {R' : Rsk} (h : EntOk w base tag i e) (hR : At w' e.r (refCells vd' R'.s R'.left R'.down R'.steps) 68) (hd : w'.ownsRow base 73 4 vd' R'.l.length (cellsOf R'.l)) (hf : Fr (e.r :: e.vd.ownBlock.toList) w w')
    (tag' : Nat → Nat) (ht : ∀ k, k < w.heap.size → tag' k = tag k) (hl : OwnT tag' vd' (13 + 4 * i)) : EntOk w' base tag' i { e with vd := vd', R := R' } := by
  have hS : ∀ k ∈ e.r :: e.vd.ownBlock.toList, tag k = 12 + 4 * i ∨ tag k = 13 + 4 * i := by
    intro k hk
    rcases List.mem_cons.1 hk with rfl | hk
    · exact .inl h.tr
    · exact .inr (h.td k (by simpa using hk))
  have hb := hf.at h.disk.blk (fun hm => by have := hS _ hm; have := h.tb; omega)
  refine ⟨⟨hb, hf.row h.disk.safe (fun k hk hm => by have := hS _ hm; have := h.ts k hk; omega), hf.row h.disk.now (fun k hk hm => by have := hS _ hm; have := h.tn k hk; omega), hf.row h.disk.loose (fun k hk hm => by have := hS _ hm; have := h.tl k hk; omega)⟩, hR, hd, ?_, ?_, ?_, hl, ?_, ?_, h.lb, h.lr⟩
  · show tag' e.b = _
    rw [ht _ h.disk.blk.lt]; exact h.tb
  · exact h.tl.mono (fun k hk => (h.disk.loose.lt k hk).2) ht
  · show tag' e.r = _
    rw [ht _ h.ref.lt]; exact h.tr
  · exact h.ts.mono (fun k hk => (h.disk.safe.lt k hk).2) ht
  · exact h.tn.mono (fun k hk => (h.disk.now.lt k hk).2) ht

/-- sizes -/
structure Small (N : Nat) (e : Ent) : Prop where
  sl : e.D.safe.length + e.D.loose.length ≤ N
  nn : e.D.now.length ≤ e.D.safe.length + e.D.loose.length
  d : e.R.l.length ≤ N
  t0 : 0 ≤ e.D.steps
  t1 : e.D.steps ≤ N
  left : e.D.left ≤ 9223372036854775807

theorem Small.s {N : Nat} {e : Ent} (h : Small N e) : e.D.safe.length ≤ N := by have := h.sl; omega
theorem Small.l {N : Nat} {e : Ent} (h : Small N e) : e.D.loose.length ≤ N := by have := h.sl; omega
theorem Small.n {N : Nat} {e : Ent} (h : Small N e) : e.D.now.length ≤ N := by have := h.sl; have := h.nn; omega

/-- all together -/
structure All (w : World) (base bS bD : Nat) (vL : Value) (n : Int) (vI vN : Value) (G : List Grp) (E : List Ent) (tag : Nat → Nat) : Prop where
  core : Core w base bS bD vL n vI vN G E tag
  ents : ∀ i e, E[i]? = some e → EntOk w base tag i e

theorem All.fr {w w' : World} {base bS bD : Nat} {vL : Value} {n : Int} {vI vN : Value} {G : List Grp} {E : List Ent} {tag : Nat → Nat} (h : All w base bS bD vL n vI vN G E tag) (hf : Fr [] w w') : All w' base bS bD vL n vI vN G E tag :=
  ⟨h.core.mono hf (by simp) (fun _ _ => rfl), fun i e he => (h.ents i e he).mono hf (by simp) (fun _ _ => rfl)⟩

/-- one entry has changed: the others are as they were -/
theorem All.set {w w' : World} {base bS bD : Nat} {vL : Value} {n : Int} {vI vN : Value} {G : List Grp} {E : List Ent} {tag tag' : Nat → Nat} {i : Nat} {e e' : Ent} {S : List Nat} (h : All w base bS bD vL n vI vN G E tag) (he : E[i]? = some e) (hf : Fr S w w') (hS : ∀ k ∈ S, tag k = 10 + 4 * i ∨ tag k = 11 + 4 * i ∨ tag k = 12 + 4 * i ∨ tag k = 13 + 4 * i) (ht : ∀ k, k < w.heap.size → tag' k = tag k) (hok : EntOk w' base tag' i e') (hb : e'.b = e.b) (hr : e'.r = e.r) : All w' base bS bD vL n vI vN G (E.set i e') tag' := by
  have hi : i < E.length := (List.getElem?_eq_some_iff.1 he).1
  have hcells : (E.set i e').flatMap entCells = E.flatMap entCells := by
    have hee := (List.getElem?_eq_some_iff.1 he).2
    rw [List.flatMap_def, List.flatMap_def, List.map_set]
    congr 1
    have : entCells e' = (E.map entCells)[i]'(by simpa using hi) := by
      rw [List.getElem_map, hee]; unfold entCells; rw [hb, hr]
    rw [this]
    exact List.set_getElem_self (by simpa using hi)
  have hc := h.core.mono hf (fun k hk => by have := hS k hk; omega) ht
  refine ⟨⟨hc.shelf, ?_, hc.drw, hc.tS, hc.tL, hc.tD, hc.tI, hc.tN, hc.tG, hc.lS, hc.lD⟩, ?_⟩
  · rw [hcells, List.length_set]; exact hc.list
  · intro j x hx
    by_cases hji : j = i
    · subst hji
      rw [List.getElem?_set_self hi] at hx
      injection hx with hx
      subst hx
      exact hok
    · rw [List.getElem?_set_ne (fun h => hji h.symm)] at hx
      exact (h.ents j x hx).mono hf (fun k hk => by have := hS k hk; omega) ht

end Go.Proofs.Ytjgnheelcbkahaa.dk
