/-
  shelf.told: Read, Bytes, Stopped and Steps, any other kind.
-/
import Derived.Test.YtjgnheelcbkahaaDkU
namespace Go.Proofs.Ytjgnheelcbkahaa.dk
open Go.RowKit

structure Cx (w : World) (base bS bD N : Nat) (vL : Value) (n : Int) (vI vN : Value) (G : List Grp) (E : List Ent) (tag : Nat → Nat) : Prop where
  all : All w base bS bD vL n vI vN G E tag
  sim : ∀ e ∈ E, Sim e.D e.R ∧ Small N e
  el : E.length ≤ N
  gl : G.length ≤ 4 * N
  gn : ∀ g ∈ G, g.n ≤ 12
  n0 : 0 ≤ n
  n1 : n ≤ N
  hb : base ≤ w.heap.size

theorem Cx.st {w : World} {base bS bD N : Nat} {vL : Value} {n : Int} {vI vN : Value} {G : List Grp} {E : List Ent} {tag : Nat → Nat} (h : Cx w base bS bD N vL n vI vN G E tag) : St w base bS bD N :=
  ⟨vL, n, vI, vN, G, E, tag, h.all, h.sim, h.el, h.gl, h.gn, h.n0, h.n1, h.hb⟩
theorem St.cx {w : World} {base bS bD N : Nat} (h : St w base bS bD N) : ∃ vL n vI vN G E tag, Cx w base bS bD N vL n vI vN G E tag := by
  obtain ⟨vL, n, vI, vN, G, E, tag, h1, h2, h3, h4, h5, h6, h7, h8⟩ := h
  exact ⟨vL, n, vI, vN, G, E, tag, h1, h2, h3, h4, h5, h6, h7, h8⟩
theorem Cx.fr {w w' : World} {base bS bD N : Nat} {vL : Value} {n : Int} {vI vN : Value} {G : List Grp} {E : List Ent} {tag : Nat → Nat} (h : Cx w base bS bD N vL n vI vN G E tag) (hf : Fr [] w w') : Cx w' base bS bD N vL n vI vN G E tag :=
  ⟨h.all.fr hf, h.sim, h.el, h.gl, h.gn, h.n0, h.n1, Nat.le_trans h.hb hf.size⟩

/-- the arguments of told, and of act -/
def actV (kind on a b : Int) (s : ByteArray) : Value := .agg #[.int .i64 kind, .int .i64 on, .int .i64 a, .int .i64 b, .string s]
def pairV (e : Ent) : Value := .agg #[.pointer (some ⟨e.b, 0, none⟩), .pointer (some ⟨e.r, 0, none⟩)]
def ptrV (b : Nat) : Value := .pointer (some ⟨b, 0, none⟩)

theorem fin_fr {w w' : World} {base bS bD N : Nat} {vL : Value} {n : Int} {vI vN : Value} {G : List Grp} {E : List Ent} {tag : Nat → Nat} (h : Cx w base bS bD N vL n vI vN G E tag) (hf : Fr [] w w') : St w' base bS bD (N + 1) ∧ Below base w w' :=
  ⟨h.st.fr hf, hf.belowS h.hb (by simp)⟩

theorem pair_cells {w : World} {b : Nat} {x y : Value} {t : TypeId} (h : At w b #[x, y] t) : w.cell? ⟨b, 0, none⟩ = some x ∧ w.cell? ⟨b, 1, none⟩ = some y := ⟨h.cell 0, h.cell 1⟩
theorem act_cells {w : World} {b : Nat} {x0 x1 x2 x3 x4 : Value} {t : TypeId} (h : At w b #[x0, x1, x2, x3, x4] t) : w.cell? ⟨b, 0, none⟩ = some x0 ∧ w.cell? ⟨b, 1, none⟩ = some x1 ∧ w.cell? ⟨b, 2, none⟩ = some x2 ∧ w.cell? ⟨b, 3, none⟩ = some x3 ∧ w.cell? ⟨b, 4, none⟩ = some x4 := ⟨h.cell 0, h.cell 1, h.cell 2, h.cell 3, h.cell 4⟩
/-- the two boxes of told -/
theorem boxes (w : World) (P O : Array Value) (t u : TypeId) : At ((w.alloc (.cells P t)).alloc (.cells O u)) w.heap.size P t ∧ At ((w.alloc (.cells P t)).alloc (.cells O u)) (w.heap.size + 1) O u :=
  ⟨(at_alloc w P t).alloc _, at_alloc2 w _ O u⟩

section
variable (w : World) (base bS bD N : Nat) (vL : Value) (n : Int) (vI vN : Value) (G : List Grp) (E : List Ent) (tag : Nat → Nat)

set_option maxRecDepth 100000 in
set_option maxHeartbeats 4000000 in
theorem told_other (h : Cx w base bS bD N vL n vI vN G E tag) (e : Ent) (kind on a b : Int) (s : ByteArray) (hk : kind < 4 ∨ 10 < kind) :
    Calls Try.prog 19 #[.pointer (some ⟨bS, 0, none⟩), .agg #[.pointer (some ⟨e.b, 0, none⟩), .pointer (some ⟨e.r, 0, none⟩)], .agg #[.int .i64 kind, .int .i64 on, .int .i64 a, .int .i64 b, .string s]] w fun ev w' => ev = .returned (.bool true) ∧ St w' base bS bD (N + 1) ∧ Below base w w' := by
  have k4 : (kind == 4) = false := by simp; omega
  have k5 : (kind == 5) = false := by simp; omega
  have k6 : (kind == 6) = false := by simp; omega
  have k7 : (kind == 7) = false := by simp; omega
  have k8 : (kind == 8) = false := by simp; omega
  have k9 : (kind == 9) = false := by simp; omega
  have k10 : (kind == 10) = false := by simp; omega
  have H := fun (w' : World) (hf : Fr [] w w') => fin_fr h hf
  clear h hk
  go_enter Try.func19, Try.ntmps19
  go_wp2_with fail
  go_ret
  exact ⟨rfl, H _ (((Fr.refl _ _).alloc _).alloc _)⟩

set_option maxRecDepth 100000 in
set_option maxHeartbeats 4000000 in
theorem told_read (h : Cx w base bS bD N vL n vI vN G E tag) (hN : N < 16777216) (i : Nat) (e : Ent) (he : E[i]? = some e) (on a b : Int) (s : ByteArray) :
    Calls Try.prog 19 #[.pointer (some ⟨bS, 0, none⟩), .agg #[.pointer (some ⟨e.b, 0, none⟩), .pointer (some ⟨e.r, 0, none⟩)], .agg #[.int .i64 4, .int .i64 on, .int .i64 a, .int .i64 b, .string s]] w fun ev w' => ev = .returned (.bool true) ∧ St w' base bS bD (N + 1) ∧ Below base w w' := by
  have H := fun (w' : World) (hf : Fr [] w w') => fin_fr h hf
  have hm : e ∈ E := List.mem_of_getElem? he
  obtain ⟨hsim, hsm⟩ := h.sim e hm
  have hsn := hsm.n
  have hsd := hsm.d
  have C1 := fun (w' : World) (hf : Fr [] w w') => dsk_read w' base e.b e.vs e.vn e.vl e.D a b (((h.fr hf).all.ents i e he).disk) (by omega)
  have C2 := fun (w' : World) (hf : Fr [] w w') => ref_read w' base e.r e.vd e.R.s e.R.left e.R.down e.R.steps e.R.l a b (((h.fr hf).all.ents i e he).ref) (((h.fr hf).all.ents i e he).deeds) (by omega)
  rw [sim_read hsim] at C1
  generalize refReadL e.R.l a b = q at C1 C2
  obtain ⟨q1, q2⟩ := q
  have HH : Hid (∀ (w' : World), Fr [] w w' → St w' base bS bD (N + 1) ∧ Below base w w') := H
  have HC1 : Hid (∀ (w' : World), Fr [] w w' → Calls Try.prog 26 #[.pointer (some ⟨e.b, 0, none⟩), .int .i64 a, .int .i64 b] w' fun ev w'' => ev = .returned (.tuple #[.string q1, .bool q2]) ∧ Fr [] w' w'') := C1
  have HC2 : Hid (∀ (w' : World), Fr [] w w' → Calls Try.prog 27 #[.pointer (some ⟨e.r, 0, none⟩), .int .i64 a, .int .i64 b] w' fun ev w'' => ev = .returned (.tuple #[.string q1, .bool q2]) ∧ Fr [] w' w'') := C2
  have F0 : ∀ X Y, Fr [] w ((w.alloc X).alloc Y) := fun X Y => ((Fr.refl _ _).alloc _).alloc _
  clear h C1 C2 H hm he hsim hsm hsn hsd
  go_enter Try.func19, Try.ntmps19
  go_wp2_with fail
  refine (HC1.out _ (F0 _ _)).mono ?_
  rintro ev w1 ⟨rfl, f1⟩
  obtain ⟨bp, bo⟩ := boxes w #[.pointer (some ⟨e.b, 0, none⟩), .pointer (some ⟨e.r, 0, none⟩)] #[.int .i64 4, .int .i64 on, .int .i64 a, .int .i64 b, .string s] 53 38
  have bp1 := f1.at bp (by simp)
  have bo1 := f1.at bo (by simp)
  obtain ⟨p0, p1⟩ := pair_cells bp1
  obtain ⟨o0, o1, o2, o3, o4⟩ := act_cells bo1
  clear bp bo
  go_wp2_with fail
  refine (HC2.out _ ((F0 _ _).trans f1)).mono ?_
  rintro ev w2 ⟨rfl, f2⟩
  go_wp2_with fail
  go_ret
  exact ⟨rfl, HH.out _ (((F0 _ _).trans f1).trans f2)⟩

set_option maxRecDepth 100000 in
set_option maxHeartbeats 4000000 in
theorem told_bytes (h : Cx w base bS bD N vL n vI vN G E tag) (hN : N < 16777216) (i : Nat) (e : Ent) (he : E[i]? = some e) (on a b : Int) (s : ByteArray) :
    Calls Try.prog 19 #[.pointer (some ⟨bS, 0, none⟩), .agg #[.pointer (some ⟨e.b, 0, none⟩), .pointer (some ⟨e.r, 0, none⟩)], .agg #[.int .i64 6, .int .i64 on, .int .i64 a, .int .i64 b, .string s]] w fun ev w' => ev = .returned (.bool true) ∧ St w' base bS bD (N + 1) ∧ Below base w w' := by
  have H := fun (w' : World) (hf : Fr [] w w') => fin_fr h hf
  have hm : e ∈ E := List.mem_of_getElem? he
  obtain ⟨hsim, hsm⟩ := h.sim e hm
  have hsn := hsm.n
  have hsd := hsm.d
  have hbb := bytesL_bound hsim.gn
  have C1 := fun (w' : World) (hf : Fr [] w w') => dsk_bytes w' base e.b e.vs e.vn e.vl e.D (((h.fr hf).all.ents i e he).disk) (by omega) (by omega)
  have C2 := fun (w' : World) (hf : Fr [] w w') => ref_bytes w' base e.r e.vd e.R.s e.R.left e.R.down e.R.steps e.R.l (((h.fr hf).all.ents i e he).ref) (((h.fr hf).all.ents i e he).deeds) (by omega) (by rw [← sim_bytes hsim]; omega)
  rw [sim_bytes hsim] at C1
  generalize refBytesL e.R.l (toldL e.R.l) = q at C1 C2
  have HH : Hid (∀ (w' : World), Fr [] w w' → St w' base bS bD (N + 1) ∧ Below base w w') := H
  have HC1 : Hid (∀ (w' : World), Fr [] w w' → Calls Try.prog 30 #[.pointer (some ⟨e.b, 0, none⟩)] w' fun ev w'' => ev = .returned (.int .i64 q) ∧ Fr [] w' w'') := C1
  have HC2 : Hid (∀ (w' : World), Fr [] w w' → Calls Try.prog 31 #[.pointer (some ⟨e.r, 0, none⟩)] w' fun ev w'' => ev = .returned (.int .i64 q) ∧ Fr [] w' w'') := C2
  have F0 : ∀ X Y, Fr [] w ((w.alloc X).alloc Y) := fun X Y => ((Fr.refl _ _).alloc _).alloc _
  clear h C1 C2 H hm he hsim hsm hsn hsd hbb
  go_enter Try.func19, Try.ntmps19
  go_wp2_with fail
  refine (HC1.out _ (F0 _ _)).mono ?_
  rintro ev w1 ⟨rfl, f1⟩
  obtain ⟨bp, bo⟩ := boxes w #[.pointer (some ⟨e.b, 0, none⟩), .pointer (some ⟨e.r, 0, none⟩)] #[.int .i64 6, .int .i64 on, .int .i64 a, .int .i64 b, .string s] 53 38
  have bp1 := f1.at bp (by simp)
  have bo1 := f1.at bo (by simp)
  obtain ⟨p0, p1⟩ := pair_cells bp1
  obtain ⟨o0, o1, o2, o3, o4⟩ := act_cells bo1
  clear bp bo
  go_wp2_with fail
  refine (HC2.out _ ((F0 _ _).trans f1)).mono ?_
  rintro ev w2 ⟨rfl, f2⟩
  go_wp2_with fail
  go_ret
  exact ⟨rfl, HH.out _ (((F0 _ _).trans f1).trans f2)⟩

set_option maxRecDepth 100000 in
set_option maxHeartbeats 4000000 in
theorem told_stands (h : Cx w base bS bD N vL n vI vN G E tag) (i : Nat) (e : Ent) (he : E[i]? = some e) (on a b : Int) (s : ByteArray) :
    Calls Try.prog 19 #[.pointer (some ⟨bS, 0, none⟩), .agg #[.pointer (some ⟨e.b, 0, none⟩), .pointer (some ⟨e.r, 0, none⟩)], .agg #[.int .i64 9, .int .i64 on, .int .i64 a, .int .i64 b, .string s]] w fun ev w' => ev = .returned (.bool true) ∧ St w' base bS bD (N + 1) ∧ Below base w w' := by
  have H := fun (w' : World) (hf : Fr [] w w') => fin_fr h hf
  have hm : e ∈ E := List.mem_of_getElem? he
  obtain ⟨hsim, hsm⟩ := h.sim e hm
  have F0 : ∀ X Y, Fr [] w ((w.alloc X).alloc Y) := fun X Y => ((Fr.refl _ _).alloc _).alloc _
  have D0 := fun X Y => ((h.fr (F0 X Y)).all.ents i e he).disk.blk
  have R0 := fun X Y => ((h.fr (F0 X Y)).all.ents i e he).ref
  have e1 := hsim.left
  have e2 := hsim.steps
  have e3 := hsim.stop
  rw [e1, e2, e3] at D0
  have HH : Hid (∀ (w' : World), Fr [] w w' → St w' base bS bD (N + 1) ∧ Below base w w') := H
  have HD : Hid (∀ X Y, At ((w.alloc X).alloc Y) e.b (dskCells e.vs e.vn e.vl e.R.left e.R.steps e.R.down) 65) := D0
  have HR : Hid (∀ X Y, At ((w.alloc X).alloc Y) e.r (refCells e.vd e.R.s e.R.left e.R.down e.R.steps) 68) := R0
  have hrl : e.r < w.heap.size := (h.all.ents i e he).ref.lt
  clear h H hm he hsim hsm D0 R0 e1 e2 e3
  go_enter Try.func19, Try.ntmps19
  go_wp2_with fail
  refine (dsk_stopped _ e.b e.vs e.vn e.vl e.R.left e.R.steps e.R.down (HD.out _ _)).mono ?_
  rintro ev w1 ⟨rfl, rfl⟩
  go_wp2_with fail
  refine (ref_stopped _ e.r e.vd e.R.s e.R.left e.R.down e.R.steps (HR.out _ _)).mono ?_
  rintro ev w1 ⟨rfl, rfl⟩
  go_wp2_with fail
  refine (dsk_steps _ e.b e.vs e.vn e.vl e.R.left e.R.steps e.R.down (HD.out _ _)).mono ?_
  rintro ev w1 ⟨rfl, rfl⟩
  have r4 := (HR.out (.cells #[.pointer (some ⟨e.b, 0, none⟩), .pointer (some ⟨e.r, 0, none⟩)] 53) (.cells #[.int .i64 9, .int .i64 on, .int .i64 a, .int .i64 b, .string s] 38)).cell 4
  simp [refCells] at r4
  go_wp2_with fail
  go_ret
  exact ⟨rfl, HH.out _ (F0 _ _)⟩
end

end Go.Proofs.Ytjgnheelcbkahaa.dk
