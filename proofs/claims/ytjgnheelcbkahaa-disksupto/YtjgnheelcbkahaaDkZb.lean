/-
  shelf.act: Sync.
-/
import Derived.Test.YtjgnheelcbkahaaDkZa
namespace Go.Proofs.Ytjgnheelcbkahaa.dk
open Go.RowKit

theorem At.to {w : World} {b : Nat} {cs cs' : Array Value} {t : TypeId} (h : At w b cs t) (e : cs = cs') : At w b cs' t := e ▸ h

section
variable (w : World) (base bS bD N : Nat) (vL : Value) (n : Int) (vI vN : Value) (G : List Grp) (E : List Ent) (tag : Nat → Nat)

set_option maxRecDepth 100000 in
set_option maxHeartbeats 8000000 in
theorem act_sync (h : Cx w base bS bD N vL n vI vN G E tag) (hN : N < 16777216) (hE : 0 < E.length) (on a b : Int) (s : ByteArray) (ho1 : -9223372036854775808 ≤ on) (ho2 : on ≤ 9223372036854775807) :
    Calls Try.prog 7 #[.pointer (some ⟨bS, 0, none⟩), .agg #[.int .i64 3, .int .i64 on, .int .i64 a, .int .i64 b, .string s]] w fun ev w' => ev = .returned (.bool true) ∧ St w' base bS bD (N + 1) ∧ Below base w w' := by
  have HX : Hid (Cx w base bS bD N vL n vI vN G E tag) := h
  have c0 : w.cell? ⟨bS, 0, none⟩ = some vL := h.all.core.shelf.cell 0
  have hbl := h.all.core.shelf.lt
  have hEl := h.el
  obtain ⟨gL, cL, rfl, hbL, hlL⟩ := h.all.core.list.form hE
  have hE2 : ¬ E.length = 0 := by omega
  have e0 : ((E.length : Int) == 0) = false := by simpa using hE2
  have HP := fun (W : World) => pick_any W on E.length hE (by omega) ho1 ho2
  have hcl : ∀ (j : Nat) (e : Ent), E[j]? = some e → w.cell? ⟨gL, j * 2, none⟩ = some (.pointer (some ⟨e.b, 0, none⟩)) ∧ w.cell? ⟨gL, j * 2 + 1, none⟩ = some (.pointer (some ⟨e.r, 0, none⟩)) := by
    intro j e he
    have hj : j < E.length := (List.getElem?_eq_some_iff.1 he).1
    have key : ∀ (F : List Ent) (j : Nat), F[j]? = some e → (F.flatMap entCells)[j * 2]? = some (.pointer (some ⟨e.b, 0, none⟩)) ∧ (F.flatMap entCells)[j * 2 + 1]? = some (.pointer (some ⟨e.r, 0, none⟩)) := by
      intro F
      induction F with
      | nil => intro j h; simp at h
      | cons x F ih =>
        intro j h
        cases j with
        | zero =>
          simp only [List.getElem?_cons_zero, Option.some.injEq] at h
          subst h
          exact ⟨rfl, rfl⟩
        | succ j =>
          have := ih j (by simpa using h)
          show (entCells x ++ F.flatMap entCells)[(j + 1) * 2]? = _ ∧ (entCells x ++ F.flatMap entCells)[(j + 1) * 2 + 1]? = _
          have hl : (entCells x).length = 2 := rfl
          rw [List.getElem?_append_right (by omega), List.getElem?_append_right (by omega), hl, show (j + 1) * 2 - 2 = j * 2 by omega, show (j + 1) * 2 + 1 - 2 = j * 2 + 1 by omega]
          exact this
    obtain ⟨h1, h2⟩ := key E j he
    exact ⟨(h.all.core.list.cellAt (j * 2) (by omega)).trans h1, (h.all.core.list.cellAt (j * 2 + 1) (by omega)).trans h2⟩
  obtain ⟨e, he⟩ : ∃ e, E[pickI on E.length]? = some e := ⟨E[pickI on E.length]'(by unfold pickI; split <;> exact Nat.mod_lt _ hE), List.getElem?_eq_getElem _⟩
  obtain ⟨d0, d1⟩ := hcl _ e he
  have HE : Hid (E[pickI on E.length]? = some e) := he
  have hpl : pickI on E.length < E.length := (List.getElem?_eq_some_iff.1 he).1
  generalize hpi : pickI on E.length = pj at *
  have HPI : Hid (pickI on E.length = pj) := hpi
  clear h hcl he hpi
  go_enter Try.func7, Try.ntmps7
  go_wp2_with fail
  have hp1 : (pj : Int) < (E.length : Int) := by omega
  have hp0 : (0 : Int) ≤ (pj : Int) := by omega
  go_region_held3 (fun w' => w'.cell? ⟨bS, 0, none⟩ = some (.slice (some ⟨gL, 0, none⟩) E.length cL) ∧ w'.cell? ⟨w.heap.size, 1, none⟩ = some (.int .i64 on) ∧ w'.cell? ⟨gL, pj * 2, none⟩ = some (.pointer (some ⟨e.b, 0, none⟩)) ∧ w'.cell? ⟨gL, pj * 2 + 1, none⟩ = some (.pointer (some ⟨e.r, 0, none⟩))) (go_keep) ((go_at_call 14; refine (HP _).mono ?_; intro ev w1 hq; obtain ⟨k, hev, hk, hkl, hw⟩ := hq; subst hev; subst hw; obtain rfl : k = pj := hk))
  all_goals
    have g0 : Fr [] w ((w.alloc (.cells #[.int .i64 3, .int .i64 on, .int .i64 a, .int .i64 b, .string s] 38)).alloc (.cells #[.pointer (some ⟨e.b, 0, none⟩), .pointer (some ⟨e.r, 0, none⟩)] 53)).drew := (((Fr.refl [] w).alloc _).alloc _).drew
    have hX := HX.out.fr g0
    have hok := hX.all.ents k e HE.out
    obtain ⟨hsim, hsm⟩ := hX.sim e (List.mem_of_getElem? HE.out)
    have hst : 0 ≤ e.D.steps ∧ e.D.steps < 4611686018427387904 := ⟨hsm.t0, by have := hsm.t1; omega⟩
    have hst2 : 0 ≤ e.R.steps ∧ e.R.steps < 4611686018427387904 := by rw [← hsim.steps]; exact hst
    have hl2 : e.R.left ≤ 9223372036854775807 := by rw [← hsim.left]; exact hsm.left
    obtain ⟨bo, bp⟩ := boxes w #[.int .i64 3, .int .i64 on, .int .i64 a, .int .i64 b, .string s] #[.pointer (some ⟨e.b, 0, none⟩), .pointer (some ⟨e.r, 0, none⟩)] 38 53
    have hbx := box_out (HX.out.all.ents k e HE.out) (k0 := w.heap.size) (Nat.le_refl _)
    have hbx1 := box_out (HX.out.all.ents k e HE.out) (k0 := w.heap.size + 1) (by omega)
    have HB : Hid (Cx ((w.alloc (.cells #[.int .i64 3, .int .i64 on, .int .i64 a, .int .i64 b, .string s] 38)).alloc (.cells #[.pointer (some ⟨e.b, 0, none⟩), .pointer (some ⟨e.r, 0, none⟩)] 53)).drew base bS bD N (.slice (some ⟨gL, 0, none⟩) E.length cL) n vI vN G E tag ∧ Below base w ((w.alloc (.cells #[.int .i64 3, .int .i64 on, .int .i64 a, .int .i64 b, .string s] 38)).alloc (.cells #[.pointer (some ⟨e.b, 0, none⟩), .pointer (some ⟨e.r, 0, none⟩)] 53)).drew ∧ At ((w.alloc (.cells #[.int .i64 3, .int .i64 on, .int .i64 a, .int .i64 b, .string s] 38)).alloc (.cells #[.pointer (some ⟨e.b, 0, none⟩), .pointer (some ⟨e.r, 0, none⟩)] 53)).drew w.heap.size #[.int .i64 3, .int .i64 on, .int .i64 a, .int .i64 b, .string s] 38 ∧ At ((w.alloc (.cells #[.int .i64 3, .int .i64 on, .int .i64 a, .int .i64 b, .string s] 38)).alloc (.cells #[.pointer (some ⟨e.b, 0, none⟩), .pointer (some ⟨e.r, 0, none⟩)] 53)).drew (w.heap.size + 1) #[.pointer (some ⟨e.b, 0, none⟩), .pointer (some ⟨e.r, 0, none⟩)] 53) := ⟨hX, g0.belowS HX.out.hb (by simp), bo, bp⟩
    have hen : stepNo e.D.left e.D.stopped = stepNo e.R.left e.R.down := by rw [hsim.left, hsim.stop]
    obtain ⟨xa, xc, hvd⟩ : ∃ xa xc, e.vd = .slice xa e.R.l.length xc := by
      obtain ⟨x, y, e1, _⟩ := row4' hok.deeds
      exact ⟨x, y, e1⟩
    have HD := dsk_sync _ e.b e.vs e.vn e.vl e.D.left e.D.steps e.D.stopped hok.disk.blk hst hsm.left (by obtain ⟨x, y, e1, _⟩ := row4' hok.disk.now; exact ⟨x, _, y, e1⟩)
    have HR := fun (w' : World) (hA : At w' e.r (refCells (.slice xa e.R.l.length xc) e.R.s e.R.left e.R.down e.R.steps) 68) => ref_sync w' e.r xa e.R.l.length xc e.R.s e.R.left e.R.down e.R.steps hA hst2 hl2
    have hra : At ((w.alloc (.cells #[.int .i64 3, .int .i64 on, .int .i64 a, .int .i64 b, .string s] 38)).alloc (.cells #[.pointer (some ⟨e.b, 0, none⟩), .pointer (some ⟨e.r, 0, none⟩)] 53)).drew e.r (refCells (.slice xa e.R.l.length xc) e.R.s e.R.left e.R.down e.R.steps) 68 := by have := hok.ref; rw [hvd] at this; exact this
    have hre : e.r ≠ e.b := fun h2 => by have h3 := hok.tb; rw [← h2, hok.tr] at h3; omega
    have HRA : Hid (At ((w.alloc (.cells #[.int .i64 3, .int .i64 on, .int .i64 a, .int .i64 b, .string s] 38)).alloc (.cells #[.pointer (some ⟨e.b, 0, none⟩), .pointer (some ⟨e.r, 0, none⟩)] 53)).drew e.r (refCells (.slice xa e.R.l.length xc) e.R.s e.R.left e.R.down e.R.steps) 68 ∧ e.r ≠ e.b ∧ e.vd = .slice xa e.R.l.length xc ∧ stepNo e.D.left e.D.stopped = stepNo e.R.left e.R.down) := ⟨hra, hre, hvd, hen⟩
    rw [← hen] at HR
    generalize hsn : stepNo e.D.left e.D.stopped = sn at *
    have HSN : Hid (stepNo e.D.left e.D.stopped = sn) := hsn
    have HRR : Hid (∀ (w' : World), At w' e.r (refCells (.slice xa e.R.l.length xc) e.R.s e.R.left e.R.down e.R.steps) 68 → Calls Try.prog 18 #[.pointer (some ⟨e.r, 0, none⟩)] w' fun ev w'' => ev = .returned (.bool (!sn)) ∧ At w'' e.r (if sn then refCells (.slice xa e.R.l.length xc) e.R.s (stepL e.R.left e.R.down) true (e.R.steps + 1) else refCells (.slice xa e.R.l.length xc) e.R.l.length (stepL e.R.left e.R.down) false (e.R.steps + 1)) 68 ∧ Fr [e.r] w' w'') := HR
    clear hX hok hsim hsm hst hst2 hl2 HR bo bp g0 hra hre hvd hen hsn
    go_wp2_with fail
    refine HD.mono ?_
    rintro ev w1 ⟨rfl, hA1, f1⟩
    obtain ⟨q1, q2, q3, q4⟩ := HB.out
    have bo1 := f1.at q3 (fun hm => hbx.1 (by simp at hm; simp [hm]))
    have bp1 := f1.at q4 (fun hm => hbx1.1 (by simp at hm; simp [hm]))
    obtain ⟨p0, p1⟩ := pair_cells bp1
    obtain ⟨o0, o1, o2, o3, o4⟩ := act_cells bo1
    have hr1 := f1.at HRA.out.1 (by simp; exact HRA.out.2.1)
    have HA1 : Hid (At w1 e.b (if sn then dskCells e.vs e.vn e.vl (stepL e.D.left e.D.stopped) (e.D.steps + 1) true else dskCells e.vn e.vn (.slice none 0 0) (stepL e.D.left e.D.stopped) (e.D.steps + 1) false) 65) := hA1
    clear q1 q2 q3 q4 bo1 bp1 HD hA1
    go_wp2_with fail
    refine (HRR.out _ hr1).mono ?_
    rintro ev w2 ⟨rfl, hA2, f2⟩
    have HA2 : Hid (At w2 e.r (if sn then refCells (.slice xa e.R.l.length xc) e.R.s (stepL e.R.left e.R.down) true (e.R.steps + 1) else refCells (.slice xa e.R.l.length xc) e.R.l.length (stepL e.R.left e.R.down) false (e.R.steps + 1)) 68) := hA2
    clear hr1 hA2
    go_wp2_with fail
    go_ret
    obtain ⟨_, _, hvd, hen⟩ := HRA.out
    have hA1 := HA1.out
    have hA2 := HA2.out
    rw [← hvd] at hA2
    cases sn with
    | true =>
      have hfin := no_fin HB.out.1 HE.out (At.to hA1 (by rw [HSN.out]; rfl)) f1 (At.to hA2 (by rw [← hen]; rfl)) f2
      exact ⟨rfl, hfin.1, HB.out.2.1.trans hfin.2⟩
    | false =>
      have hfin := sync_fin HB.out.1 HE.out hA1 f1 hA2 f2
      exact ⟨rfl, hfin.1, HB.out.2.1.trans hfin.2⟩
end

end Go.Proofs.Ytjgnheelcbkahaa.dk
