/-
  The shop in memory; opened.
-/
import Derived.Test.YtmeplfpnpogalaaKpF
namespace Go.Proofs.Ytmeplfpnpogalaa.kp
open Go.RowKit dk

def noDisk : Dsk := ⟨[], [], [], -1, 0, false⟩
/-- a shop: its own block, the list of what the caller knows, the store, the disk -/
structure ShopAt (w : World) (base hb x d lb : Nat) (v : Value) (o : List Kn) : Prop where
  shop : At w hb #[.pointer (some ⟨x, 0, none⟩), .pointer (some ⟨d, 0, none⟩), .slice (some ⟨lb, 0, none⟩) 40 40] 59
  list : At w lb (knV o).toArray 70
  len : o.length = 40
  ok : ∀ k ∈ o, k.Ok
  store : StoreAt w base x v (entsF 0 o)
  disk : At w d (dskCells (.slice none 0 0) (.slice none 0 0) (.slice none 0 0) (-1) 0 false) 111
  leh : base ≤ hb
  lel : base ≤ lb
theorem ShopAt.fr {w w' : World} {base hb x d lb : Nat} {v : Value} {o : List Kn} (h : ShopAt w base hb x d lb v o) (hf : Fr [] w w') : ShopAt w' base hb x d lb v o :=
  ⟨hf.at h.shop (by simp), hf.at h.list (by simp), h.len, h.ok, h.store.fr hf, hf.at h.disk (by simp), h.leh, h.lel⟩
theorem at_ne {w : World} {a b : Nat} {cs ds : Array Value} {t u : TypeId} (h1 : At w a cs t) (h2 : At w b ds u) (ht : t ≠ u) : a ≠ b := by
  intro e
  subst e
  have e2 : some (Obj.cells cs t (0, 0)) = some (Obj.cells ds u (0, 0)) := (show w.heap[a]? = _ from h1).symm.trans h2
  cases e2
  exact ht rfl
theorem ShopAt.apart {w : World} {base hb x d lb : Nat} {v : Value} {o : List Kn} {S : List Nat} (h : ShopAt w base hb x d lb v o) (hS : ∀ k ∈ S, k = x ∨ v.ownBlock = some k) : hb ∉ S ∧ lb ∉ S ∧ d ∉ S :=
  ⟨fun hm => by
    rcases hS _ hm with e | e
    · exact at_ne h.shop h.store.blk (by decide) e
    · exact row_ne h.shop (by decide) h.store.row e,
   fun hm => by
    rcases hS _ hm with e | e
    · exact at_ne h.list h.store.blk (by decide) e
    · exact row_ne h.list (by decide) h.store.row e,
   fun hm => by
    rcases hS _ hm with e | e
    · exact at_ne h.disk h.store.blk (by decide) e
    · exact row_ne h.disk (by decide) h.store.row e⟩
/-- the store has gone on; all else stands -/
theorem ShopAt.store_set {w w' : World} {base hb x d lb : Nat} {v v' : Value} {o : List Kn} {S : List Nat} (h : ShopAt w base hb x d lb v o) (hf : Fr S w w') (hS : ∀ k ∈ S, k = x ∨ v.ownBlock = some k) (hs : StoreAt w' base x v' (entsF 0 o)) : ShopAt w' base hb x d lb v' o := by
  obtain ⟨n1, n2, n3⟩ := h.apart hS
  exact ⟨hf.at h.shop n1, hf.at h.list n2, h.len, h.ok, hs, hf.at h.disk n3, h.leh, h.lel⟩
theorem knV_length (o : List Kn) : (knV o).length = o.length * 2 := by
  induction o with
  | nil => rfl
  | cons c l ih => simp only [knV, List.flatMap_cons, List.length_append, List.length_cons] at ih ⊢; simp only [Kn.vs, List.length_cons, List.length_nil]; omega
theorem knV_set {o : List Kn} {j : Nat} {k : Kn} (hk : o[j]? = some k) (st : Int) (x : ByteArray) : ((knV o).set (j * 2) (.int .i64 st)).set (j * 2 + 1) (.string x) = knV (o.set j ⟨st, x⟩) := by
  induction o generalizing j with
  | nil => simp at hk
  | cons y l ih =>
    cases j with
    | zero => rfl
    | succ j =>
      have hc' : l[j]? = some k := by simpa using hk
      show ((y.vs ++ knV l).set ((j + 1) * 2) _).set ((j + 1) * 2 + 1) _ = y.vs ++ knV (l.set j ⟨st, x⟩)
      rw [← ih hc', show (j + 1) * 2 = (j * 2) + 2 by omega, show (j * 2) + 2 + 1 = (j * 2 + 1) + 2 by omega]
      rfl
/-- the store has gone on, and the caller has noted it -/
theorem ShopAt.noted {w w' : World} {base hb x d lb : Nat} {v v' : Value} {o : List Kn} {S : List Nat} {j : Nat} {k : Kn} {st : Int} {xb : ByteArray} (h : ShopAt w base hb x d lb v o) (hf : Fr S w w') (hS : ∀ k ∈ S, k = x ∨ v.ownBlock = some k) (hk : o[j]? = some k) (hok : Kn.Ok ⟨st, xb⟩)
    (hs : StoreAt w' base x v' (entsF 0 (o.set j ⟨st, xb⟩))) : ShopAt ((w'.setCell ⟨lb, j * 2, none⟩ (.int .i64 st)).setCell ⟨lb, j * 2 + 1, none⟩ (.string xb)) base hb x d lb v' (o.set j ⟨st, xb⟩) := by
  obtain ⟨n1, n2, n3⟩ := h.apart hS
  have e1 := hf.at h.shop n1
  have e2 := hf.at h.list n2
  have e3 := hf.at h.disk n3
  have m1 : hb ≠ lb := at_ne h.shop h.list (by decide)
  have m2 : d ≠ lb := at_ne h.disk h.list (by decide)
  have m3 : x ≠ lb := at_ne h.store.blk h.list (by decide)
  have m4 : v'.ownBlock ≠ some lb := row_ne e2 (by decide) hs.row
  refine ⟨(e1.setOther m1 _).setOther m1 _, ?_, by rw [List.length_set]; exact h.len, ?_, ⟨(hs.blk.setOther m3 _).setOther m3 _, rowSetOther (rowSetOther hs.row lb _ m4 _) lb _ m4 _, hs.le⟩, (e3.setOther m2 _).setOther m2 _, h.leh, h.lel⟩
  · have := (e2.set (j * 2) (.int .i64 st)).set (j * 2 + 1) (.string xb)
    rw [← knV_set hk]
    simpa using this
  · intro y hy
    rcases List.mem_or_eq_of_mem_set hy with h1 | h1
    · exact h.ok y h1
    · rw [h1]; exact hok
theorem mem_own {s : Nat} {v : Value} : ∀ k ∈ s :: own v, k = s ∨ v.ownBlock = some k := by
  intro k hk
  rcases List.mem_cons.1 hk with e | hk
  · exact .inl e
  · unfold own at hk
    cases ho : v.ownBlock with
    | none => rw [ho] at hk; simp at hk
    | some g => rw [ho] at hk; simp at hk; subst hk; exact .inr rfl

def kn0 : List Kn := List.replicate 40 ⟨0, ByteArray.empty⟩
theorem ents0 : entsF 0 kn0 = [] := by
  have h : ∀ n i, entsF i (List.replicate n (⟨0, ByteArray.empty⟩ : Kn)) = [] := by
    intro n
    induction n with
    | zero => intro i; rfl
    | succ n ih => intro i; rw [List.replicate_succ]; simp only [entsF, ih]; rfl
  exact h 40 0
theorem Try.infoOwn : (Try.prog.info? 70).map (fun i => (i.zero, i.size, i.bytes)) = some (some (.agg #[.int .i64 0, .string ByteArray.empty]), 2, 24) := by kernel_rfl
theorem made40 : madeCells #[.int .i64 0, .string ByteArray.empty] 80 = (knV kn0).toArray := by kernel_rfl

set_option maxRecDepth 100000 in
set_option maxHeartbeats 4000000 in
theorem opened (w : World) : Calls Try.prog 13 #[] w fun e w' => ∃ hb x d lb v, e = .returned (.pointer (some ⟨hb, 0, none⟩)) ∧ ShopAt w' w.heap.size hb x d lb v kn0 ∧ Fr [] w w' := by
  obtain ⟨i0, hi, hz0, hz1, hz2⟩ := info_parts Try.infoOwn
  have hmk : ∀ W : World, (Instr.makeSlice 57 (.int .i64 40) (.int .i64 40)).run Try.prog W = .ok (.slice (some ⟨W.heap.size, 0, none⟩) 40 40) (W.alloc (.cells (knV kn0).toArray 70)) := fun W => by
    have h := run_make (P := Try.prog) W 57 70 i0 (.agg #[.int .i64 0, .string ByteArray.empty]) Try.underlying57 hi hz0 .i64 .i64 40 40 (by omega) (by omega) (by rw [hz2]; omega) (by omega)
    rw [hz1] at h
    rw [← made40]
    exact h
  go_enter Try.func13, Try.ntmps13
  go_wp2_with fail
  refine (awake w).mono ?_
  rintro e w0 ⟨rfl, hf0⟩
  go_wp2_with fail
  refine (dsk_new w0).mono ?_
  rintro e w1 ⟨rfl, hD1, hf1, hs1⟩
  go_wp2_with fail
  refine (stOpen w1 w0.heap.size).mono ?_
  rintro e w2 ⟨rfl, hA2, hf2, hs2⟩
  have hD2 := hf2.at hD1 (by simp)
  generalize hz : (knV kn0).toArray = Z at *
  go_wp2_with fail
  go_ret
  have hs3 : w2.heap.size = w0.heap.size + 1 + 1 := by omega
  have hs4 : w1.heap.size = w0.heap.size + 1 := hs1
  have hsz0 := hf0.size
  have hL : At ((w2.alloc (.cells Z 70)).alloc (.cells #[.pointer (some ⟨w0.heap.size + 1, 0, none⟩), .pointer (some ⟨w0.heap.size, 0, none⟩), .slice (some ⟨w0.heap.size + 1 + 1, 0, none⟩) 40 40] 59)) (w0.heap.size + 1 + 1) Z 70 := by
    rw [← hs3]
    exact (at_alloc w2 _ _).alloc _
  have hH : At ((w2.alloc (.cells Z 70)).alloc (.cells #[.pointer (some ⟨w0.heap.size + 1, 0, none⟩), .pointer (some ⟨w0.heap.size, 0, none⟩), .slice (some ⟨w0.heap.size + 1 + 1, 0, none⟩) 40 40] 59)) (w0.heap.size + 1 + 1 + 1) #[.pointer (some ⟨w0.heap.size + 1, 0, none⟩), .pointer (some ⟨w0.heap.size, 0, none⟩), .slice (some ⟨w0.heap.size + 1 + 1, 0, none⟩) 40 40] 59 := by
    have := at_alloc2 w2 (.cells Z 70) #[.pointer (some ⟨w0.heap.size + 1, 0, none⟩), .pointer (some ⟨w0.heap.size, 0, none⟩), .slice (some ⟨w0.heap.size + 1 + 1, 0, none⟩) 40 40] 59
    rwa [hs3] at this
  rw [hs4] at hA2
  refine ⟨_, w0.heap.size + 1, w0.heap.size, w0.heap.size + 1 + 1, .slice none 0 0, rfl, ⟨hH, ?_, by simp [kn0], ?_, ?_, (hD2.alloc _).alloc _, by omega, by omega⟩, (((hf0.trans hf1).trans hf2).alloc _).alloc _⟩
  · rw [hz]; exact hL
  · intro k hk
    have := List.eq_of_mem_replicate hk
    subst this
    exact ⟨.inl rfl, by decide, fun h => by cases h⟩
  · rw [ents0]
    exact ⟨(hA2.alloc _).alloc _, World.ownsRow_nil _ _ _ _, by omega⟩
end Go.Proofs.Ytmeplfpnpogalaa.kp
