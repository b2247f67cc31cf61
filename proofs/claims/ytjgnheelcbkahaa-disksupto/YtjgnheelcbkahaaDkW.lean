/-
  shelf.told: Spoil, Stop.
-/
import Derived.Test.YtjgnheelcbkahaaDkV
namespace Go.Proofs.Ytjgnheelcbkahaa.dk
open Go.RowKit

theorem Cx.upd {W w2 : World} {base bS bD N : Nat} {vL : Value} {n : Int} {vI vN : Value} {G : List Grp} {E : List Ent} {tag tag2 : Nat → Nat} {i : Nat} {e1 e2 : Ent} (h : Cx W base bS bD N vL n vI vN G E tag)
    (hA : All w2 base bS bD vL n vI vN G ((E.set i e1).set i e2) tag2) (hs : Sim e2.D e2.R) (hm : Small (N + 1) e2) (hsz : W.heap.size ≤ w2.heap.size) : St w2 base bS bD (N + 1) := by
  rw [List.set_set] at hA
  refine ⟨vL, n, vI, vN, G, _, tag2, hA, ?_, ?_, ?_, h.gn, h.n0, ?_, Nat.le_trans h.hb hsz⟩
  · intro x hx
    rcases mem_set hx with hx | hx
    · exact ⟨(h.sim x hx).1, (h.sim x hx).2.mono (by omega)⟩
    · subst hx; exact ⟨hs, hm⟩
  · rw [List.length_set]; have := h.el; omega
  · have := h.gl; omega
  · have := h.n1; omega

theorem EntOk.lo {w : World} {base : Nat} {tag : Nat → Nat} {i : Nat} {e : Ent} (h : EntOk w base tag i e) : (∀ k ∈ e.b :: e.vl.ownBlock.toList, base ≤ k) ∧ (∀ k ∈ e.r :: e.vd.ownBlock.toList, base ≤ k) := by
  refine ⟨fun k hk => ?_, fun k hk => ?_⟩
  · rcases List.mem_cons.1 hk with rfl | hk
    · exact h.lb
    · exact (h.disk.loose.lt k (by simpa using hk)).1
  · rcases List.mem_cons.1 hk with rfl | hk
    · exact h.lr
    · exact (h.deeds.lt k (by simpa using hk)).1

theorem get_set {E : List Ent} {i : Nat} {e e1 : Ent} (he : E[i]? = some e) : (E.set i e1)[i]? = some e1 := List.getElem?_set_self (List.getElem?_eq_some_iff.1 he).1

/-- the disk alone: what it holds has changed, its rows are as they were -/
theorem All.diskSame {W w1 : World} {base bS bD : Nat} {vL : Value} {n : Int} {vI vN : Value} {G : List Grp} {E : List Ent} {tag : Nat → Nat} {i : Nat} {e : Ent} {D' : Dsk} (h : All W base bS bD vL n vI vN G E tag) (he : E[i]? = some e) (hD : DiskAt w1 base e.b e.vs e.vn e.vl D') (hf : Fr [e.b] W w1) :
    ∃ tag', All w1 base bS bD vL n vI vN G (E.set i { e with vs := e.vs, vn := e.vn, vl := e.vl, D := D' }) tag' := by
  have hok := h.ents i e he
  refine h.disk he hD (hf.mono (fun k _ hk => by simp at hk; simp [hk])) (fun k hk _ => hok.ts k hk) (fun k hk _ => hok.tn k hk) (fun k hk _ => hok.tl k hk) (fun k hk hge => ?_)
  have := (hok.disk.loose.lt k hk).2
  omega

/-- the document's disk alone, its row as it was -/
theorem All.refSame {W w1 : World} {base bS bD : Nat} {vL : Value} {n : Int} {vI vN : Value} {G : List Grp} {E : List Ent} {tag : Nat → Nat} {i : Nat} {e : Ent} {R' : Rsk} (h : All W base bS bD vL n vI vN G E tag) (he : E[i]? = some e) (hR : At w1 e.r (refCells e.vd R'.s R'.left R'.down R'.steps) 68) (hl : R'.l = e.R.l) (hf : Fr [e.r] W w1) :
    ∃ tag', All w1 base bS bD vL n vI vN G (E.set i { e with vd := e.vd, R := R' }) tag' := by
  have hok := h.ents i e he
  refine h.ref he hR ?_ (hf.mono (fun k _ hk => by simp at hk; simp [hk])) (fun k hk _ => hok.td k hk)
  rw [hl]
  exact hf.row hok.deeds (fun k hk => by simp only [List.mem_singleton]; intro e2; exact hok.dsep (by rw [hk, e2]))

theorem diskAt_nums {W w1 : World} {base : Nat} {tag : Nat → Nat} {i : Nat} {e : Ent} (h : EntOk W base tag i e) {left steps : Int} {st : Bool} (hA : At w1 e.b (dskCells e.vs e.vn e.vl left steps st) 65) (hf : Fr [e.b] W w1) : DiskAt w1 base e.b e.vs e.vn e.vl { e.D with left := left, steps := steps, stopped := st } :=
  ⟨hA, hf.row h.disk.safe (fun k hk => by simp only [List.mem_singleton]; intro e2; exact h.sep.s (by rw [hk, e2])), hf.row h.disk.now (fun k hk => by simp only [List.mem_singleton]; intro e2; exact h.sep.n (by rw [hk, e2])), hf.row h.disk.loose (fun k hk => by simp only [List.mem_singleton]; intro e2; exact h.sep.l (by rw [hk, e2]))⟩

/-- the boxes are not among what an entry owns -/
theorem box_out {W : World} {base : Nat} {tag : Nat → Nat} {i k0 : Nat} {e : Ent} (h : EntOk W base tag i e) (hk : W.heap.size ≤ k0) : k0 ∉ e.b :: e.vl.ownBlock.toList ∧ k0 ∉ e.r :: e.vd.ownBlock.toList := by
  refine ⟨fun hm => ?_, fun hm => ?_⟩
  · rcases List.mem_cons.1 hm with rfl | hm
    · have := h.disk.blk.lt; omega
    · have := (h.disk.loose.lt k0 (by simpa using hm)).2; omega
  · rcases List.mem_cons.1 hm with rfl | hm
    · have := h.ref.lt; omega
    · have := (h.deeds.lt k0 (by simpa using hm)).2; omega

theorem spoil_disk {W w1 : World} {base bS bD : Nat} {vL : Value} {n : Int} {vI vN : Value} {G : List Grp} {E : List Ent} {tag : Nat → Nat} {i : Nat} {e : Ent} {a b : Int} (h : All W base bS bD vL n vI vN G E tag) (he : E[i]? = some e)
    (hp : ∃ vs' vn' vl', DiskAt w1 base e.b vs' vn' vl' (e.D.spoilt a b) ∧ Fr [e.b] W w1 ∧ (vs' = e.vs ∧ vn' = e.vn ∧ vl' = e.vl ∨ New W vs' ∧ New W vn' ∧ New W vl' ∧ Sep e.b vs' vn' vl')) :
    ∃ vs' vn' vl' tag1, All w1 base bS bD vL n vI vN G (E.set i { e with vs := vs', vn := vn', vl := vl', D := e.D.spoilt a b }) tag1 ∧ Fr [e.b] W w1 := by
  obtain ⟨vs', vn', vl', hD, hf, hc⟩ := hp
  rcases hc with ⟨rfl, rfl, rfl⟩ | ⟨h1, h2, h3, h4⟩
  · obtain ⟨tag1, hA⟩ := h.diskSame he hD hf
    exact ⟨_, _, _, tag1, hA, hf⟩
  · obtain ⟨tag1, hA⟩ := h.disk he hD (hf.mono (fun k _ hk => by simp at hk; simp [hk])) (fun k hk hlt => by have := h1 k hk; omega) (fun k hk hlt => by have := h2 k hk; omega) (fun k hk hlt => by have := h3 k hk; omega) (fun k hk _ => ⟨h4.sl k hk, h4.nl k hk⟩)
    exact ⟨_, _, _, tag1, hA, hf⟩

section
variable (w : World) (base bS bD N : Nat) (vL : Value) (n : Int) (vI vN : Value) (G : List Grp) (E : List Ent) (tag : Nat → Nat)

set_option maxRecDepth 100000 in
set_option maxHeartbeats 4000000 in
theorem told_stop (h : Cx w base bS bD N vL n vI vN G E tag) (i : Nat) (e : Ent) (he : E[i]? = some e) (on a b : Int) (s : ByteArray) (ha : a ≤ 9223372036854775807) :
    Calls Try.prog 19 #[.pointer (some ⟨bS, 0, none⟩), .agg #[.pointer (some ⟨e.b, 0, none⟩), .pointer (some ⟨e.r, 0, none⟩)], .agg #[.int .i64 8, .int .i64 on, .int .i64 a, .int .i64 b, .string s]] w fun ev w' => ev = .returned (.bool true) ∧ St w' base bS bD (N + 1) ∧ Below base w w' := by
  have hm : e ∈ E := List.mem_of_getElem? he
  obtain ⟨hsim, hsm⟩ := h.sim e hm
  have F0 : ∀ X Y, Fr [] w ((w.alloc X).alloc Y) := fun X Y => ((Fr.refl _ _).alloc _).alloc _
  have HX := h.fr (F0 (.cells #[.pointer (some ⟨e.b, 0, none⟩), .pointer (some ⟨e.r, 0, none⟩)] 53) (.cells #[.int .i64 8, .int .i64 on, .int .i64 a, .int .i64 b, .string s] 38))
  have hok := HX.all.ents i e he
  have hok0 := h.all.ents i e he
  have HH : Hid (Cx ((w.alloc (.cells #[.pointer (some ⟨e.b, 0, none⟩), .pointer (some ⟨e.r, 0, none⟩)] 53)).alloc (.cells #[.int .i64 8, .int .i64 on, .int .i64 a, .int .i64 b, .string s] 38)) base bS bD N vL n vI vN G E tag ∧ E[i]? = some e ∧ Sim e.D e.R ∧ Small N e ∧ EntOk w base tag i e ∧ base ≤ w.heap.size) := ⟨HX, he, hsim, hsm, hok0, h.hb⟩
  have HD := dsk_stop _ e.b e.vs e.vn e.vl e.D.left e.D.steps e.D.stopped a hok.disk.blk
  obtain ⟨bp, bo⟩ := boxes w #[.pointer (some ⟨e.b, 0, none⟩), .pointer (some ⟨e.r, 0, none⟩)] #[.int .i64 8, .int .i64 on, .int .i64 a, .int .i64 b, .string s] 53 38
  have HB : Hid (_ ∧ _) := ⟨bp, bo⟩
  clear h hm he hsim hsm HX hok hok0 bp bo
  go_enter Try.func19, Try.ntmps19
  go_wp2_with fail
  refine HD.mono ?_
  rintro ev w1 ⟨rfl, hA1, f1⟩
  obtain ⟨hX, he, hsim, hsm, hok0, hbase⟩ := HH.out
  have hok := hX.all.ents i e he
  obtain ⟨tag1, A1⟩ := hX.all.diskSame he (diskAt_nums hok hA1 f1) f1
  have hok1 := A1.ents i _ (get_set he)
  have hR1 := hok1.ref
  have bp1 := f1.at HB.out.1 (by have := hok0.disk.blk.lt; simp; omega)
  have bo1 := f1.at HB.out.2 (by have := hok0.disk.blk.lt; simp; omega)
  have HK : Hid (All w1 base bS bD vL n vI vN G (E.set i { e with vs := e.vs, vn := e.vn, vl := e.vl, D := { e.D with left := stopL e.D.left e.D.stopped a, steps := e.D.steps, stopped := e.D.stopped } }) tag1 ∧ Fr [e.b] ((w.alloc (.cells #[.pointer (some ⟨e.b, 0, none⟩), .pointer (some ⟨e.r, 0, none⟩)] 53)).alloc (.cells #[.int .i64 8, .int .i64 on, .int .i64 a, .int .i64 b, .string s] 38)) w1) := ⟨A1, f1⟩
  obtain ⟨p0, p1⟩ := pair_cells bp1
  obtain ⟨o0, o1, o2, o3, o4⟩ := act_cells bo1
  have HR := ref_stop _ e.r e.vd e.R.s e.R.left e.R.down e.R.steps a hR1
  clear hX he hsim hsm hok0 hok A1 hok1 hA1 f1 bp1 bo1 HD hR1
  go_wp2_with fail
  refine HR.mono ?_
  rintro ev w2 ⟨rfl, hA2, f2⟩
  go_wp2_with fail
  go_ret
  obtain ⟨hX, he, hsim, hsm, hok0, hbase⟩ := HH.out
  obtain ⟨A1, f1⟩ := HK.out
  obtain ⟨tag2, A2⟩ := A1.refSame (R' := { e.R with left := stopL e.R.left e.R.down a }) (get_set he) hA2 rfl f2
  have hlo := (hX.all.ents i e he).lo
  have hs2 := f2.size
  have hs1 := f1.size
  refine ⟨rfl, hX.upd A2 ⟨?_, hsim.steps, hsim.stop, hsim.gs, hsim.gn, hsim.sl, hsim.now, hsim.crash, hsim.cnt, hsim.sle, hsim.bad⟩ ?_ (Nat.le_trans hs1 hs2), ?_⟩
  · show stopL e.D.left e.D.stopped a = stopL e.R.left e.R.down a
    rw [hsim.left, hsim.stop]
  · refine ⟨Nat.le_succ_of_le hsm.sl, hsm.nn, Nat.le_succ_of_le hsm.d, hsm.t0, ?_, ?_⟩
    · show e.D.steps ≤ ((N + 1 : Nat) : Int)
      have := hsm.t1; omega
    show stopL e.D.left e.D.stopped a ≤ 9223372036854775807
    have := hsm.left
    unfold stopL
    split
    · exact this
    · split <;> omega
  · have b0 := (F0 (.cells #[.pointer (some ⟨e.b, 0, none⟩), .pointer (some ⟨e.r, 0, none⟩)] 53) (.cells #[.int .i64 8, .int .i64 on, .int .i64 a, .int .i64 b, .string s] 38)).belowS hbase (by simp)
    have b1 := f1.belowS hX.hb (fun k hk => hlo.1 k (by simp at hk; simp [hk]))
    have b2 := f2.belowS (Nat.le_trans hX.hb hs1) (fun k hk => hlo.2 k (by simp at hk; simp [hk]))
    exact (b0.trans b1).trans b2

set_option maxRecDepth 100000 in
set_option maxHeartbeats 4000000 in
theorem told_spoil (h : Cx w base bS bD N vL n vI vN G E tag) (hN : N < 16777216) (i : Nat) (e : Ent) (he : E[i]? = some e) (on a b : Int) (s : ByteArray) :
    Calls Try.prog 19 #[.pointer (some ⟨bS, 0, none⟩), .agg #[.pointer (some ⟨e.b, 0, none⟩), .pointer (some ⟨e.r, 0, none⟩)], .agg #[.int .i64 5, .int .i64 on, .int .i64 a, .int .i64 b, .string s]] w fun ev w' => ev = .returned (.bool true) ∧ St w' base bS bD (N + 1) ∧ Below base w w' := by
  have hm : e ∈ E := List.mem_of_getElem? he
  obtain ⟨hsim, hsm⟩ := h.sim e hm
  have F0 : ∀ X Y, Fr [] w ((w.alloc X).alloc Y) := fun X Y => ((Fr.refl _ _).alloc _).alloc _
  have HX := h.fr (F0 (.cells #[.pointer (some ⟨e.b, 0, none⟩), .pointer (some ⟨e.r, 0, none⟩)] 53) (.cells #[.int .i64 5, .int .i64 on, .int .i64 a, .int .i64 b, .string s] 38))
  have hok := HX.all.ents i e he
  have hok0 := h.all.ents i e he
  have HH : Hid (Cx ((w.alloc (.cells #[.pointer (some ⟨e.b, 0, none⟩), .pointer (some ⟨e.r, 0, none⟩)] 53)).alloc (.cells #[.int .i64 5, .int .i64 on, .int .i64 a, .int .i64 b, .string s] 38)) base bS bD N vL n vI vN G E tag ∧ E[i]? = some e ∧ Sim e.D e.R ∧ Small N e ∧ EntOk w base tag i e ∧ base ≤ w.heap.size) := ⟨HX, he, hsim, hsm, hok0, h.hb⟩
  have m1 := hsm.n
  have m2 := hsm.l
  have m3 := hsm.s
  have m4 := hsm.d
  have HD := dsk_spoil _ base e.b e.vs e.vn e.vl e.D a b hok.disk (by omega) (by omega) (by omega) hok.sep HX.hb
  obtain ⟨bp, bo⟩ := boxes w #[.pointer (some ⟨e.b, 0, none⟩), .pointer (some ⟨e.r, 0, none⟩)] #[.int .i64 5, .int .i64 on, .int .i64 a, .int .i64 b, .string s] 53 38
  have HB : Hid (_ ∧ _) := ⟨bp, bo⟩
  clear h hm he hsim hsm HX hok hok0 bp bo
  go_enter Try.func19, Try.ntmps19
  go_wp2_with fail
  refine HD.mono ?_
  rintro ev w1 ⟨rfl, hp⟩
  obtain ⟨hX, he, hsim, hsm, hok0, hbase⟩ := HH.out
  obtain ⟨vs', vn', vl', tag1, A1, f1⟩ := spoil_disk hX.all he hp
  have hok1 := A1.ents i _ (get_set he)
  have bp1 := f1.at HB.out.1 (by have := hok0.disk.blk.lt; simp; omega)
  have bo1 := f1.at HB.out.2 (by have := hok0.disk.blk.lt; simp; omega)
  have HK : Hid (All w1 base bS bD vL n vI vN G (E.set i { e with vs := vs', vn := vn', vl := vl', D := e.D.spoilt a b }) tag1 ∧ Fr [e.b] ((w.alloc (.cells #[.pointer (some ⟨e.b, 0, none⟩), .pointer (some ⟨e.r, 0, none⟩)] 53)).alloc (.cells #[.int .i64 5, .int .i64 on, .int .i64 a, .int .i64 b, .string s] 38)) w1) := ⟨A1, f1⟩
  obtain ⟨p0, p1⟩ := pair_cells bp1
  obtain ⟨o0, o1, o2, o3, o4⟩ := act_cells bo1
  have HR := ref_spoil _ base e.r e.vd e.R.s e.R.left e.R.down e.R.steps e.R.l a b hok1.ref hok1.deeds (by omega) hok1.dsep (Nat.le_trans hX.hb f1.size)
  clear hX he hsim hsm hok0 A1 hok1 f1 bp1 bo1 HD hp
  go_wp2_with fail
  refine HR.mono ?_
  rintro ev w2 ⟨rfl, vd', hA2, hd2, f2, hv2⟩
  go_wp2_with fail
  go_ret
  obtain ⟨hX, he, hsim, hsm, hok0, hbase⟩ := HH.out
  obtain ⟨A1, f1⟩ := HK.out
  have hok1 := A1.ents i _ (get_set he)
  obtain ⟨tag2, A2⟩ := A1.ref (R' := { e.R with l := refSpoilL e.R.l a b }) (vd' := vd') (get_set he) hA2 hd2 f2 (fun k hk hlt => by
    rcases hv2 with h1 | h1
    · exact hok1.td k (by rw [← h1]; exact hk)
    · have := h1 k hk; omega)
  have hlo := (hX.all.ents i e he).lo
  have hlo1 := hok1.lo
  have hs2 := f2.size
  have hs1 := f1.size
  refine ⟨rfl, hX.upd A2 (hsim.spoil a b) ?_ (Nat.le_trans hs1 hs2), ?_⟩
  · have e1 : (e.D.spoilt a b).safe.length = e.D.safe.length ∧ (e.D.spoilt a b).now.length = e.D.now.length ∧ (e.D.spoilt a b).loose.length = e.D.loose.length ∧ (e.D.spoilt a b).steps = e.D.steps ∧ (e.D.spoilt a b).left = e.D.left := by
      unfold Dsk.spoilt; split
      · exact ⟨spoilL_length _ _ _, spoilL_length _ _ _, spoilL_length _ _ _, rfl, rfl⟩
      · exact ⟨rfl, rfl, rfl, rfl, rfl⟩
    have e2 : (refSpoilL e.R.l a b).length ≤ e.R.l.length + 1 := by
      unfold refSpoilL; split
      · omega
      · split
        · simp
        · omega
    refine ⟨?_, ?_, ?_, ?_, ?_, ?_⟩
    · show (e.D.spoilt a b).safe.length + (e.D.spoilt a b).loose.length ≤ N + 1; have := hsm.sl; omega
    · show (e.D.spoilt a b).now.length ≤ (e.D.spoilt a b).safe.length + (e.D.spoilt a b).loose.length; have := hsm.nn; omega
    · show (refSpoilL e.R.l a b).length ≤ N + 1; omega
    · show 0 ≤ (e.D.spoilt a b).steps; rw [e1.2.2.2.1]; exact hsm.t0
    · show (e.D.spoilt a b).steps ≤ (N + 1 : Nat); rw [e1.2.2.2.1]; have := hsm.t1; omega
    · show (e.D.spoilt a b).left ≤ _; rw [e1.2.2.2.2]; exact hsm.left
  · have b0 := (F0 (.cells #[.pointer (some ⟨e.b, 0, none⟩), .pointer (some ⟨e.r, 0, none⟩)] 53) (.cells #[.int .i64 5, .int .i64 on, .int .i64 a, .int .i64 b, .string s] 38)).belowS hbase (by simp)
    have b1 := f1.belowS hX.hb (fun k hk => hlo.1 k (by simp at hk; simp [hk]))
    have b2 := f2.belowS (Nat.le_trans hX.hb hs1) hlo1.2
    exact (b0.trans b1).trans b2
end

end Go.Proofs.Ytjgnheelcbkahaa.dk
