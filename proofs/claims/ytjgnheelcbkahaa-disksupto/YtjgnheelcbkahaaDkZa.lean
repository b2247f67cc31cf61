/-
  shelf.act: Write, Sync.
-/
import Derived.Test.YtjgnheelcbkahaaDkZ
namespace Go.Proofs.Ytjgnheelcbkahaa.dk
open Go.RowKit

/-- a step's numbers -/
theorem stepL_le {left : Int} {st : Bool} (h : left ≤ 9223372036854775807) : stepL left st ≤ 9223372036854775807 := by
  unfold stepL; split
  · exact h
  · split <;> omega

theorem Small.step {N : Nat} {e : Ent} (h : Small N e) {e' : Ent} (hs : e'.D.safe.length + e'.D.loose.length ≤ N + 1) (hn : e'.D.now.length ≤ e'.D.safe.length + e'.D.loose.length) (hd : e'.R.l.length ≤ N + 1) (ht : e'.D.steps = e.D.steps + 1) (hl : e'.D.left = stepL e.D.left e.D.stopped) : Small (N + 1) e' :=
  ⟨hs, hn, hd, by rw [ht]; have := h.t0; omega, by rw [ht]; have := h.t1; omega, by rw [hl]; exact stepL_le h.left⟩

/-- both refuse -/
theorem no_fin {W w1 w2 : World} {base bS bD N : Nat} {vL : Value} {n : Int} {vI vN : Value} {G : List Grp} {E : List Ent} {tag : Nat → Nat} {i : Nat} {e : Ent} (hX : Cx W base bS bD N vL n vI vN G E tag) (he : E[i]? = some e)
    (hA1 : At w1 e.b (dskCells e.vs e.vn e.vl (stepL e.D.left e.D.stopped) (e.D.steps + 1) (stepNo e.D.left e.D.stopped)) 65) (f1 : Fr [e.b] W w1)
    (hA2 : At w2 e.r (refCells e.vd e.R.s (stepL e.R.left e.R.down) (stepNo e.R.left e.R.down) (e.R.steps + 1)) 68) (f2 : Fr [e.r] w1 w2) : St w2 base bS bD (N + 1) ∧ Below base W w2 := by
  obtain ⟨hsim, hsm⟩ := hX.sim e (List.mem_of_getElem? he)
  have hok := hX.all.ents i e he
  obtain ⟨tag1, A1⟩ := hX.all.diskSame he (diskAt_nums hok hA1 f1) f1
  obtain ⟨tag2, A2⟩ := A1.refSame (R' := { e.R with left := stepL e.R.left e.R.down, down := stepNo e.R.left e.R.down, steps := e.R.steps + 1 }) (get_set he) hA2 rfl f2
  have hlo := hok.lo
  refine ⟨hX.upd A2 ⟨?_, ?_, ?_, hsim.gs, hsim.gn, hsim.sl, hsim.now, hsim.crash, hsim.cnt, hsim.sle, hsim.bad⟩ (hsm.step (Nat.le_succ_of_le hsm.sl) hsm.nn (Nat.le_succ_of_le hsm.d) rfl rfl) (Nat.le_trans f1.size f2.size), ?_⟩
  · show stepL e.D.left e.D.stopped = stepL e.R.left e.R.down
    rw [hsim.left, hsim.stop]
  · show e.D.steps + 1 = e.R.steps + 1
    rw [hsim.steps]
  · show stepNo e.D.left e.D.stopped = stepNo e.R.left e.R.down
    rw [hsim.left, hsim.stop]
  · have b1 := f1.belowS hX.hb (fun k hk => hlo.1 k (by simp at hk; simp [hk]))
    have b2 := f2.belowS (Nat.le_trans hX.hb f1.size) (fun k hk => hlo.2 k (by simp at hk; simp [hk]))
    exact b1.trans b2

/-- the disk has written -/
theorem wrote_disk {W w1 : World} {base bS bD : Nat} {vL : Value} {n : Int} {vI vN : Value} {G : List Grp} {E : List Ent} {tag : Nat → Nat} {i : Nat} {e : Ent} {c : Cel} (h : All W base bS bD vL n vI vN G E tag) (he : E[i]? = some e)
    (hp : ∃ vn' vl', DiskAt w1 base e.b e.vs vn' vl' (e.D.wrote c) ∧ Fr (e.b :: e.vl.ownBlock.toList) W w1 ∧ New W vn' ∧ (vl'.ownBlock = e.vl.ownBlock ∨ New W vl') ∧ (∀ k, vl'.ownBlock = some k → vn'.ownBlock ≠ some k)) :
    ∃ vn' vl' tag1, All w1 base bS bD vL n vI vN G (E.set i { e with vs := e.vs, vn := vn', vl := vl', D := e.D.wrote c }) tag1 ∧ Fr (e.b :: e.vl.ownBlock.toList) W w1 := by
  obtain ⟨vn', vl', hD, hf, h1, h2, h3⟩ := hp
  have hok := h.ents i e he
  obtain ⟨tag1, hA⟩ := h.disk he hD hf (fun k hk _ => hok.ts k hk) (fun k hk hlt => by have := h1 k hk; omega) (fun k hk hlt => by
      rcases h2 with h2 | h2
      · exact hok.tl k (by rw [← h2]; exact hk)
      · have := h2 k hk; omega) (fun k hk hge => ⟨fun h4 => by have := (hok.disk.safe.lt k h4).2; omega, h3 k hk⟩)
  exact ⟨vn', vl', tag1, hA, hf⟩

theorem wrote_fin {W w1 w2 : World} {base bS bD N : Nat} {vL : Value} {n : Int} {vI vN vn' vl' : Value} {G : List Grp} {E : List Ent} {tag tag1 : Nat → Nat} {i : Nat} {e : Ent} {c : Cel} (hX : Cx W base bS bD N vL n vI vN G E tag) (he : E[i]? = some e) (hc : c.sp = false) (hsz : c.data.size ≤ 2048)
    (A1 : All w1 base bS bD vL n vI vN G (E.set i { e with vs := e.vs, vn := vn', vl := vl', D := e.D.wrote c }) tag1) (f1 : Fr (e.b :: e.vl.ownBlock.toList) W w1)
    (hp : ∃ vd', At w2 e.r (refCells vd' e.R.s (stepL e.R.left e.R.down) false (e.R.steps + 1)) 68 ∧ w2.ownsRow base 73 4 vd' (e.R.l ++ [c]).length (cellsOf (e.R.l ++ [c])) ∧ Fr (e.r :: e.vd.ownBlock.toList) w1 w2 ∧ (vd'.ownBlock = e.vd.ownBlock ∨ New w1 vd')) : St w2 base bS bD (N + 1) ∧ Below base W w2 := by
  obtain ⟨hsim, hsm⟩ := hX.sim e (List.mem_of_getElem? he)
  obtain ⟨vd', hA2, hd2, f2, hv2⟩ := hp
  have hok1 := A1.ents i _ (get_set he)
  rw [← hsim.left, ← hsim.stop, ← hsim.steps] at hA2
  obtain ⟨tag2, A2⟩ := A1.ref (R' := { l := e.R.l ++ [c], s := e.R.s, left := stepL e.D.left e.D.stopped, down := false, steps := e.D.steps + 1 }) (vd' := vd') (get_set he) hA2 hd2 f2 (fun k hk hlt => by
    rcases hv2 with h1 | h1
    · exact hok1.td k (by rw [← h1]; exact hk)
    · have := h1 k hk; omega)
  have hlo := (hX.all.ents i e he).lo
  have hlo1 := hok1.lo
  refine ⟨hX.upd A2 (hsim.write c hc hsz) (hsm.step ?_ ?_ ?_ rfl rfl) (Nat.le_trans f1.size f2.size), (f1.belowS hX.hb hlo.1).trans (f2.belowS (Nat.le_trans hX.hb f1.size) hlo1.2)⟩
  · show e.D.safe.length + (e.D.loose ++ [c]).length ≤ N + 1
    have := hsm.sl
    rw [List.length_append, List.length_singleton]; omega
  · show (putL e.D.now c).length ≤ e.D.safe.length + (e.D.loose ++ [c]).length
    have := hsm.nn
    have := putL_le e.D.now c
    rw [List.length_append, List.length_singleton]; omega
  · show (e.R.l ++ [c]).length ≤ N + 1
    have := hsm.d
    rw [List.length_append, List.length_singleton]; omega

/-- both have made all safe -/
theorem sync_fin {W w1 w2 : World} {base bS bD N : Nat} {vL : Value} {n : Int} {vI vN : Value} {G : List Grp} {E : List Ent} {tag : Nat → Nat} {i : Nat} {e : Ent} (hX : Cx W base bS bD N vL n vI vN G E tag) (he : E[i]? = some e)
    (hA1 : At w1 e.b (dskCells e.vn e.vn (.slice none 0 0) (stepL e.D.left e.D.stopped) (e.D.steps + 1) false) 65) (f1 : Fr [e.b] W w1)
    (hA2 : At w2 e.r (refCells e.vd e.R.l.length (stepL e.R.left e.R.down) false (e.R.steps + 1)) 68) (f2 : Fr [e.r] w1 w2) : St w2 base bS bD (N + 1) ∧ Below base W w2 := by
  obtain ⟨hsim, hsm⟩ := hX.sim e (List.mem_of_getElem? he)
  have hok := hX.all.ents i e he
  have hrow := f1.row hok.disk.now (fun k hk => by simp only [List.mem_singleton]; intro e2; exact hok.sep.n (by rw [hk, e2]))
  have hD : DiskAt w1 base e.b e.vn e.vn (.slice none 0 0) { e.D with safe := e.D.now, loose := [], left := stepL e.D.left e.D.stopped, steps := e.D.steps + 1, stopped := false } := ⟨hA1, hrow, hrow, World.ownsRow_nil _ _ _ _⟩
  obtain ⟨tag1, A1⟩ := hX.all.disk he hD (f1.mono (fun k _ hk => by simp at hk; simp [hk])) (fun k hk _ => hok.tn k hk) (fun k hk _ => hok.tn k hk) (fun k hk => by simp [Value.ownBlock] at hk) (fun k hk => by simp [Value.ownBlock] at hk)
  rw [← hsim.left, ← hsim.stop, ← hsim.steps] at hA2
  obtain ⟨tag2, A2⟩ := A1.refSame (R' := { e.R with s := e.R.l.length, left := stepL e.D.left e.D.stopped, down := false, steps := e.D.steps + 1 }) (get_set he) hA2 rfl f2
  have hlo := hok.lo
  refine ⟨hX.upd A2 (hsim.sync.nums (stepL e.D.left e.D.stopped) (e.D.steps + 1) false) (hsm.step ?_ ?_ (Nat.le_succ_of_le hsm.d) rfl rfl) (Nat.le_trans f1.size f2.size), ?_⟩
  · show e.D.now.length + ([] : List Cel).length ≤ N + 1
    have := hsm.n
    simp only [List.length_nil]; omega
  · show e.D.now.length ≤ e.D.now.length + ([] : List Cel).length
    simp
  · have b1 := f1.belowS hX.hb (fun k hk => hlo.1 k (by simp at hk; simp [hk]))
    have b2 := f2.belowS (Nat.le_trans hX.hb f1.size) (fun k hk => hlo.2 k (by simp at hk; simp [hk]))
    exact b1.trans b2

section
variable (w : World) (base bS bD N : Nat) (vL : Value) (n : Int) (vI vN : Value) (G : List Grp) (E : List Ent) (tag : Nat → Nat)

set_option maxRecDepth 100000 in
set_option maxHeartbeats 8000000 in
theorem act_write (h : Cx w base bS bD N vL n vI vN G E tag) (hN : N < 16777216) (hE : 0 < E.length) (on a b : Int) (s : ByteArray) (ho1 : -9223372036854775808 ≤ on) (ho2 : on ≤ 9223372036854775807) :
    Calls Try.prog 7 #[.pointer (some ⟨bS, 0, none⟩), .agg #[.int .i64 2, .int .i64 on, .int .i64 a, .int .i64 b, .string s]] w fun ev w' => ev = .returned (.bool true) ∧ St w' base bS bD (N + 1) ∧ Below base w w' := by
  have HX : Hid (Cx w base bS bD N vL n vI vN G E tag) := h
  have c0 : w.cell? ⟨bS, 0, none⟩ = some vL := h.all.core.shelf.cell 0
  have hbl := h.all.core.shelf.lt
  have hEl := h.el
  obtain ⟨gL, cL, rfl, hbL, hlL⟩ := h.all.core.list.form hE
  have hE2 : ¬ E.length = 0 := by omega
  have e0 : ((E.length : Int) == 0) = false := by simpa using hE2
  have HP := fun (W : World) => pick_any W on E.length hE (by omega) ho1 ho2
  have hcl : ∀ (j : Nat) (e : Ent), E[j]? = some e → w.cell? ⟨gL, j * 2, none⟩ = some (.pointer (some ⟨e.b, 0, none⟩)) ∧ w.cell? ⟨gL, j * 2 + 1, none⟩ = some (.pointer (some ⟨e.r, 0, none⟩)) := by
    intro j e he
    have hj : j < E.length := (List.getElem?_eq_some_iff.1 he).1
    have key : ∀ (F : List Ent) (j : Nat), F[j]? = some e → (F.flatMap entCells)[j * 2]? = some (.pointer (some ⟨e.b, 0, none⟩)) ∧ (F.flatMap entCells)[j * 2 + 1]? = some (.pointer (some ⟨e.r, 0, none⟩)) := by
      intro F
      induction F with
      | nil => intro j h; simp at h
      | cons x F ih =>
        intro j h
        cases j with
        | zero =>
          simp only [List.getElem?_cons_zero, Option.some.injEq] at h
          subst h
          exact ⟨rfl, rfl⟩
        | succ j =>
          have := ih j (by simpa using h)
          show (entCells x ++ F.flatMap entCells)[(j + 1) * 2]? = _ ∧ (entCells x ++ F.flatMap entCells)[(j + 1) * 2 + 1]? = _
          have hl : (entCells x).length = 2 := rfl
          rw [List.getElem?_append_right (by omega), List.getElem?_append_right (by omega), hl, show (j + 1) * 2 - 2 = j * 2 by omega, show (j + 1) * 2 + 1 - 2 = j * 2 + 1 by omega]
          exact this
    obtain ⟨h1, h2⟩ := key E j he
    exact ⟨(h.all.core.list.cellAt (j * 2) (by omega)).trans h1, (h.all.core.list.cellAt (j * 2 + 1) (by omega)).trans h2⟩
  obtain ⟨e, he⟩ : ∃ e, E[pickI on E.length]? = some e := ⟨E[pickI on E.length]'(by unfold pickI; split <;> exact Nat.mod_lt _ hE), List.getElem?_eq_getElem _⟩
  obtain ⟨d0, d1⟩ := hcl _ e he
  have HE : Hid (E[pickI on E.length]? = some e) := he
  have hpl : pickI on E.length < E.length := (List.getElem?_eq_some_iff.1 he).1
  generalize hpi : pickI on E.length = pj at *
  have HPI : Hid (pickI on E.length = pj) := hpi
  clear h hcl he hpi
  go_enter Try.func7, Try.ntmps7
  go_wp2_with fail
  have hp1 : (pj : Int) < (E.length : Int) := by omega
  have hp0 : (0 : Int) ≤ (pj : Int) := by omega
  go_region_held3 (fun w' => w'.cell? ⟨bS, 0, none⟩ = some (.slice (some ⟨gL, 0, none⟩) E.length cL) ∧ w'.cell? ⟨w.heap.size, 1, none⟩ = some (.int .i64 on) ∧ w'.cell? ⟨gL, pj * 2, none⟩ = some (.pointer (some ⟨e.b, 0, none⟩)) ∧ w'.cell? ⟨gL, pj * 2 + 1, none⟩ = some (.pointer (some ⟨e.r, 0, none⟩))) (go_keep) ((go_at_call 14; refine (HP _).mono ?_; intro ev w1 hq; obtain ⟨k, hev, hk, hkl, hw⟩ := hq; subst hev; subst hw; obtain rfl : k = pj := hk))
  all_goals
    have g0 : Fr [] w ((w.alloc (.cells #[.int .i64 2, .int .i64 on, .int .i64 a, .int .i64 b, .string s] 38)).alloc (.cells #[.pointer (some ⟨e.b, 0, none⟩), .pointer (some ⟨e.r, 0, none⟩)] 53)).drew := (((Fr.refl [] w).alloc _).alloc _).drew
    have hX := HX.out.fr g0
    have hok := hX.all.ents k e HE.out
    obtain ⟨hsim, hsm⟩ := hX.sim e (List.mem_of_getElem? HE.out)
    have hst : 0 ≤ e.D.steps ∧ e.D.steps < 4611686018427387904 := ⟨hsm.t0, by have := hsm.t1; omega⟩
    have hst2 : 0 ≤ e.R.steps ∧ e.R.steps < 4611686018427387904 := by rw [← hsim.steps]; exact hst
    have hl2 : e.R.left ≤ 9223372036854775807 := by rw [← hsim.left]; exact hsm.left
    obtain ⟨bo, bp⟩ := boxes w #[.int .i64 2, .int .i64 on, .int .i64 a, .int .i64 b, .string s] #[.pointer (some ⟨e.b, 0, none⟩), .pointer (some ⟨e.r, 0, none⟩)] 38 53
    have hbx := box_out (HX.out.all.ents k e HE.out) (k0 := w.heap.size) (Nat.le_refl _)
    have hbx1 := box_out (HX.out.all.ents k e HE.out) (k0 := w.heap.size + 1) (by omega)
    have HB : Hid (Cx ((w.alloc (.cells #[.int .i64 2, .int .i64 on, .int .i64 a, .int .i64 b, .string s] 38)).alloc (.cells #[.pointer (some ⟨e.b, 0, none⟩), .pointer (some ⟨e.r, 0, none⟩)] 53)).drew base bS bD N (.slice (some ⟨gL, 0, none⟩) E.length cL) n vI vN G E tag ∧ Below base w ((w.alloc (.cells #[.int .i64 2, .int .i64 on, .int .i64 a, .int .i64 b, .string s] 38)).alloc (.cells #[.pointer (some ⟨e.b, 0, none⟩), .pointer (some ⟨e.r, 0, none⟩)] 53)).drew ∧ At ((w.alloc (.cells #[.int .i64 2, .int .i64 on, .int .i64 a, .int .i64 b, .string s] 38)).alloc (.cells #[.pointer (some ⟨e.b, 0, none⟩), .pointer (some ⟨e.r, 0, none⟩)] 53)).drew w.heap.size #[.int .i64 2, .int .i64 on, .int .i64 a, .int .i64 b, .string s] 38 ∧ At ((w.alloc (.cells #[.int .i64 2, .int .i64 on, .int .i64 a, .int .i64 b, .string s] 38)).alloc (.cells #[.pointer (some ⟨e.b, 0, none⟩), .pointer (some ⟨e.r, 0, none⟩)] 53)).drew (w.heap.size + 1) #[.pointer (some ⟨e.b, 0, none⟩), .pointer (some ⟨e.r, 0, none⟩)] 53) := ⟨hX, g0.belowS HX.out.hb (by simp), bo, bp⟩
    have m1 := hsm.n
    have m2 := hsm.l
    have m4 := hsm.d
    by_cases hno : stepNo e.D.left e.D.stopped = true ∨ okArgs a b s = false
    · have hno2 : stepNo e.R.left e.R.down = true ∨ okArgs a b s = false := by rw [← hsim.left, ← hsim.stop]; exact hno
      have HD := dsk_write_no _ e.b e.vs e.vn e.vl e.D.left e.D.steps e.D.stopped a b s hok.disk.blk hst hsm.left hno
      have HR := fun (w' : World) (hA : At w' e.r (refCells e.vd e.R.s e.R.left e.R.down e.R.steps) 68) => ref_write_no w' e.r e.vd e.R.s e.R.left e.R.down e.R.steps a b s hA hst2 hl2 hno2
      have HRR : Hid (∀ (w' : World), At w' e.r (refCells e.vd e.R.s e.R.left e.R.down e.R.steps) 68 → Calls Try.prog 16 #[.pointer (some ⟨e.r, 0, none⟩), .int .i64 a, .int .i64 b, .string s] w' fun ev w'' => ev = .returned (.bool false) ∧ At w'' e.r (refCells e.vd e.R.s (stepL e.R.left e.R.down) (stepNo e.R.left e.R.down) (e.R.steps + 1)) 68 ∧ Fr [e.r] w' w'') := HR
      have HRA : Hid (At ((w.alloc (.cells #[.int .i64 2, .int .i64 on, .int .i64 a, .int .i64 b, .string s] 38)).alloc (.cells #[.pointer (some ⟨e.b, 0, none⟩), .pointer (some ⟨e.r, 0, none⟩)] 53)).drew e.r (refCells e.vd e.R.s e.R.left e.R.down e.R.steps) 68 ∧ e.r ≠ e.b) := ⟨hok.ref, fun h2 => by have h3 := hok.tb; rw [← h2, hok.tr] at h3; omega⟩
      clear hX hok hsim hsm hst hst2 hl2 hno hno2 HR bo bp g0
      go_wp2_with fail
      refine HD.mono ?_
      rintro ev w1 ⟨rfl, hA1, f1⟩
      obtain ⟨q1, q2, q3, q4⟩ := HB.out
      have bo1 := f1.at q3 (fun hm => hbx.1 (by simp at hm; simp [hm]))
      have bp1 := f1.at q4 (fun hm => hbx1.1 (by simp at hm; simp [hm]))
      obtain ⟨p0, p1⟩ := pair_cells bp1
      obtain ⟨o0, o1, o2, o3, o4⟩ := act_cells bo1
      have hr1 := f1.at HRA.out.1 (by simp; exact HRA.out.2)
      clear q1 q2 q3 q4 bo1 bp1 HD
      go_wp2_with fail
      refine (HRR.out _ hr1).mono ?_
      rintro ev w2 ⟨rfl, hA2, f2⟩
      clear hr1
      go_wp2_with fail
      go_ret
      have hfin := no_fin HB.out.1 HE.out hA1 f1 hA2 f2
      exact ⟨rfl, hfin.1, HB.out.2.1.trans hfin.2⟩
    · have hn1 : stepNo e.D.left e.D.stopped = false := by simpa using fun h2 => hno (.inl h2)
      have ho : okArgs a b s = true := by
        cases h2 : okArgs a b s with
        | true => rfl
        | false => exact absurd (.inr h2) hno
      have hn2 : stepNo e.R.left e.R.down = false := by rw [← hsim.left, ← hsim.stop]; exact hn1
      have hsz : s.size ≤ 2048 := by
        unfold okArgs at ho
        simp only [Bool.and_eq_true, decide_eq_true_eq] at ho
        exact ho.2
      have HD := dsk_write_yes _ base e.b e.vs e.vn e.vl e.D a b s hok.disk hst hsm.left hn1 ho (by omega) (by omega) hok.sep hX.hb
      have HR := fun (w' : World) (tag' : Nat → Nat) (e' : Ent) (hO : EntOk w' base tag' k e') (h1 : e'.r = e.r) (h2 : e'.vd = e.vd) (h3 : e'.R = e.R) (h4 : base ≤ w'.heap.size) => ref_write_yes w' base e.r e.vd e.R.s e.R.left e.R.down e.R.steps e.R.l a b s (by have := hO.ref; rw [h1, h2, h3] at this; exact this) (by have := hO.deeds; rw [h2, h3] at this; exact this) hst2 hl2 hn2 ho (by omega) (by have := hO.dsep; rw [h1, h2] at this; exact this) h4
      have HRR : Hid (∀ (w' : World) (tag' : Nat → Nat) (e' : Ent), EntOk w' base tag' k e' → e'.r = e.r → e'.vd = e.vd → e'.R = e.R → base ≤ w'.heap.size → Calls Try.prog 16 #[.pointer (some ⟨e.r, 0, none⟩), .int .i64 a, .int .i64 b, .string s] w' fun ev w'' => ev = .returned (.bool true) ∧ ∃ vd', At w'' e.r (refCells vd' e.R.s (stepL e.R.left e.R.down) false (e.R.steps + 1)) 68 ∧ w''.ownsRow base 73 4 vd' (e.R.l ++ [(⟨a, b, s, false⟩ : Cel)]).length (cellsOf (e.R.l ++ [⟨a, b, s, false⟩])) ∧ Fr (e.r :: e.vd.ownBlock.toList) w' w'' ∧ (vd'.ownBlock = e.vd.ownBlock ∨ New w' vd')) := HR
      clear hX hok hsim hsm hst hst2 hl2 hno hn1 hn2 ho HR bo bp g0
      go_wp2_with fail
      refine HD.mono ?_
      rintro ev w1 ⟨rfl, hp1⟩
      obtain ⟨q1, q2, q3, q4⟩ := HB.out
      obtain ⟨vn', vl', tag1, A1, f1⟩ := wrote_disk q1.all HE.out hp1
      have bo1 := f1.at q3 hbx.1
      have bp1 := f1.at q4 hbx1.1
      obtain ⟨p0, p1⟩ := pair_cells bp1
      obtain ⟨o0, o1, o2, o3, o4⟩ := act_cells bo1
      have HR1 := HRR.out w1 tag1 _ (A1.ents k _ (get_set HE.out)) rfl rfl rfl (Nat.le_trans q1.hb f1.size)
      have HA1 : Hid (All w1 base bS bD (.slice (some ⟨gL, 0, none⟩) E.length cL) n vI vN G (E.set k { e with vs := e.vs, vn := vn', vl := vl', D := e.D.wrote ⟨a, b, s, false⟩ }) tag1 ∧ Fr (e.b :: e.vl.ownBlock.toList) ((w.alloc (.cells #[.int .i64 2, .int .i64 on, .int .i64 a, .int .i64 b, .string s] 38)).alloc (.cells #[.pointer (some ⟨e.b, 0, none⟩), .pointer (some ⟨e.r, 0, none⟩)] 53)).drew w1) := ⟨A1, f1⟩
      clear q1 q2 q3 q4 bo1 bp1 HD hp1 A1 f1
      go_wp2_with fail
      refine HR1.mono ?_
      rintro ev w2 ⟨rfl, hp2⟩
      go_wp2_with fail
      go_ret
      have hfin := wrote_fin HB.out.1 HE.out rfl hsz HA1.out.1 HA1.out.2 hp2
      exact ⟨rfl, hfin.1, HB.out.2.1.trans hfin.2⟩
end

end Go.Proofs.Ytjgnheelcbkahaa.dk
