/-
  shelf.told: Harmed.
-/
import Derived.Test.YtjgnheelcbkahaaDkW
namespace Go.Proofs.Ytjgnheelcbkahaa.dk
open Go.RowKit

theorem keep_step {W w2 w3 : World} {base bS bD N k : Nat} {vL : Value} {n : Int} {vI vN v : Value} {G : List Grp} {E : List Ent} {tag : Nat → Nat} (hX : Cx W base bS bD N vL n vI vN G E tag) (f2 : Fr [] W w2) (hnew : New W v) (hk : k ≤ 9)
    (hp : ∃ vI' vN' ua ub uc, DrwAt w3 base bD (n + 1) vI' vN' (G ++ [⟨v, k, 100 + (n + 1)⟩, ⟨ua, k + 1, 100 + (n + 1)⟩, ⟨ub, k + 2, 100 + (n + 1)⟩, ⟨uc, k + 3, 100 + (n + 1)⟩]) ∧ DSep bD vI' vN' (G ++ [⟨v, k, 100 + (n + 1)⟩, ⟨ua, k + 1, 100 + (n + 1)⟩, ⟨ub, k + 2, 100 + (n + 1)⟩, ⟨uc, k + 3, 100 + (n + 1)⟩]) ∧ Fr (bD :: (vI.ownBlock.toList ++ vN.ownBlock.toList ++ v.ownBlock.toList)) w2 w3 ∧ (vI'.ownBlock = vI.ownBlock ∨ New w2 vI') ∧ (vN'.ownBlock = vN.ownBlock ∨ New w2 vN') ∧ (ua.ownBlock = v.ownBlock ∨ New w2 ua) ∧ (ub.ownBlock = v.ownBlock ∨ New w2 ub) ∧ (uc.ownBlock = v.ownBlock ∨ New w2 uc)) :
    St w3 base bS bD (N + 1) ∧ Below base W w3 := by
  obtain ⟨vI', vN', ua, ub, uc, hD, hsep, f3, hI, hN, hA, hB, hC⟩ := hp
  have hs2 := f2.size
  have up : ∀ x : Value, New w2 x → New W x := fun x hx j hj => Nat.le_trans hs2 (hx j hj)
  have upv : ∀ x : Value, (x.ownBlock = v.ownBlock ∨ New w2 x) → New W x := fun x hx => by
    rcases hx with h1 | h1
    · intro j hj; exact hnew j (by rw [← h1]; exact hj)
    · exact up x h1
  have f4 : Fr (bD :: (vI.ownBlock.toList ++ vN.ownBlock.toList)) W w3 := by
    refine (Fr.trans (f2.nil (S := bD :: (vI.ownBlock.toList ++ vN.ownBlock.toList ++ v.ownBlock.toList))) f3).mono (fun j hj hm => ?_)
    rcases List.mem_cons.1 hm with rfl | hm
    · simp
    · rcases List.mem_append.1 hm with hm | hm
      · exact List.mem_cons_of_mem _ hm
      · have := hnew j (by simpa using hm); omega
  have hG : ∀ g ∈ G ++ [(⟨v, k, 100 + (n + 1)⟩ : Grp), ⟨ua, k + 1, 100 + (n + 1)⟩, ⟨ub, k + 2, 100 + (n + 1)⟩, ⟨uc, k + 3, 100 + (n + 1)⟩], (g ∈ G ∨ New W g.v) ∧ g.n ≤ 12 := by
    intro g hg
    rcases List.mem_append.1 hg with hg | hg
    · exact ⟨.inl hg, hX.gn g hg⟩
    · simp only [List.mem_cons, List.not_mem_nil, or_false] at hg
      rcases hg with rfl | rfl | rfl | rfl
      · exact ⟨.inr hnew, by show k ≤ 12; omega⟩
      · exact ⟨.inr (upv ua hA), by show k + 1 ≤ 12; omega⟩
      · exact ⟨.inr (upv ub hB), by show k + 2 ≤ 12; omega⟩
      · exact ⟨.inr (upv uc hC), by show k + 3 ≤ 12; omega⟩
  obtain ⟨tag', hAll⟩ := hX.all.keep f4 hD hsep (hI.imp id (up vI')) (hN.imp id (up vN')) (fun g hg => (hG g hg).1)
  refine ⟨⟨vL, n + 1, vI', vN', _, E, tag', hAll, fun e he => ⟨(hX.sim e he).1, (hX.sim e he).2.mono (by omega)⟩, by have := hX.el; omega, ?_, fun g hg => (hG g hg).2, by have := hX.n0; omega, by have := hX.n1; omega, Nat.le_trans hX.hb f4.size⟩, f4.belowS hX.hb (fun j hj => ?_)⟩
  · have := hX.gl
    simp only [List.length_append, List.length_cons, List.length_nil]
    omega
  · rcases List.mem_cons.1 hj with rfl | hj
    · exact hX.all.core.lD
    · rcases List.mem_append.1 hj with hj | hj
      · exact (hX.all.core.drw.ints.lt j (by simpa using hj)).1
      · exact (hX.all.core.drw.marks.lt j (by simpa using hj)).1

section
variable (w : World) (base bS bD N : Nat) (vL : Value) (n : Int) (vI vN : Value) (G : List Grp) (E : List Ent) (tag : Nat → Nat)

set_option maxRecDepth 100000 in
set_option maxHeartbeats 8000000 in
theorem told_harmed (h : Cx w base bS bD N vL n vI vN G E tag) (hN : N < 16777216) (i : Nat) (e : Ent) (he : E[i]? = some e) (on a b : Int) (s : ByteArray) :
    Calls Try.prog 19 #[.pointer (some ⟨bS, 0, none⟩), .agg #[.pointer (some ⟨e.b, 0, none⟩), .pointer (some ⟨e.r, 0, none⟩)], .agg #[.int .i64 7, .int .i64 on, .int .i64 a, .int .i64 b, .string s]] w fun ev w' => ev = .returned (.bool true) ∧ St w' base bS bD (N + 1) ∧ Below base w w' := by
  have hm : e ∈ E := List.mem_of_getElem? he
  obtain ⟨hsim, hsm⟩ := h.sim e hm
  have F0 : ∀ X Y, Fr [] w ((w.alloc X).alloc Y) := fun X Y => ((Fr.refl _ _).alloc _).alloc _
  have m1 := hsm.n
  have m4 := hsm.d
  have C1 := fun (w' : World) (hf : Fr [] w w') => dsk_harmed w' base e.b e.vs e.vn e.vl e.D (((h.fr hf).all.ents i e he).disk) (by omega)
  have C2 := fun (w' : World) (hf : Fr [] w w') => ref_harmed w' base e.r e.vd e.R.s e.R.left e.R.down e.R.steps e.R.l (((h.fr hf).all.ents i e he).ref) (((h.fr hf).all.ents i e he).deeds) (by omega)
  have hq9 := harmedTo_le (badDev e.D.now) 9
  rw [sim_harmedTo hsim] at C1 hq9
  generalize harmedTo (refBad e.R.l (toldL e.R.l)) 9 = q at C1 C2 hq9
  have HC1 : Hid (∀ (w' : World), Fr [] w w' → Calls Try.prog 32 #[.pointer (some ⟨e.b, 0, none⟩)] w' fun ev w'' => ∃ v', ev = .returned v' ∧ w''.ownsRow w'.heap.size 3 1 v' q.length (intsOf q) ∧ Fr [] w' w'') := C1
  have HC2 : Hid (∀ (w' : World), Fr [] w w' → Calls Try.prog 33 #[.pointer (some ⟨e.r, 0, none⟩)] w' fun ev w'' => ∃ v', ev = .returned v' ∧ w''.ownsRow w'.heap.size 3 1 v' q.length (intsOf q) ∧ Fr [] w' w'') := C2
  have HX : Hid (Cx w base bS bD N vL n vI vN G E tag) := h
  have hbS := h.all.core.shelf.lt
  clear h C1 C2 hm he hsim hsm m1 m4
  go_enter Try.func19, Try.ntmps19
  go_wp2_with fail
  refine (HC1.out _ (F0 _ _)).mono ?_
  rintro ev w1 ⟨v1, rfl, own1, f1⟩
  obtain ⟨bp, bo⟩ := boxes w #[.pointer (some ⟨e.b, 0, none⟩), .pointer (some ⟨e.r, 0, none⟩)] #[.int .i64 7, .int .i64 on, .int .i64 a, .int .i64 b, .string s] 53 38
  have bp1 := f1.at bp (by simp)
  have bo1 := f1.at bo (by simp)
  obtain ⟨p0, p1⟩ := pair_cells bp1
  obtain ⟨o0, o1, o2, o3, o4⟩ := act_cells bo1
  have g1 := (F0 _ _).trans f1
  have hb1 := bp1.lt
  clear bp bo f1
  go_wp2_with fail
  refine (HC2.out _ g1).mono ?_
  rintro ev w2 ⟨v2, rfl, own2, f2⟩
  have own12 := f2.row own1 (by simp)
  obtain ⟨a1, cap1, rfl, hle1, hmx1, hc1⟩ := row1 own12
  obtain ⟨a2, cap2, rfl, hle2, hmx2, hc2⟩ := row1 own2
  have g2 := g1.trans f2
  have hsz1 := f2.size
  have hsz2 := g2.size
  have HO : Hid (w2.ownsRow w.heap.size 3 1 (.slice a1 q.length cap1) q.length (intsOf q)) := rowBase own12 (by simp; omega)
  have c1S : w2.cell? ⟨bS, 1, none⟩ = some (.pointer (some ⟨bD, 0, none⟩)) := (HX.out.fr g2).all.core.shelf.cell 1
  have hq1 : (q.length : Int) = (q.length : Int) := rfl
  clear own1 own2 own12 p0 p1 o0 o1 o2 o3 o4 bp1 bo1 g1 hq1
  go_wp2_with fail
  go_loopw [15, 16] (fun f x wx => ∃ j : Nat, f = .bool true ∧ x = .int .i64 j ∧ j ≤ q.length ∧ Fr [] w2 wx) (fun _ x _ => q.length - (intOf x).toNat)
  case atStart => exact ⟨0, rfl, rfl, Nat.zero_le _, Fr.refl _ _⟩
  case round =>
    obtain ⟨j, rfl, rfl, hj, hw⟩ := hrel
    by_cases hjl : j < q.length
    · obtain ⟨c, hc⟩ : ∃ c, q[j]? = some c := ⟨q[j], List.getElem?_eq_getElem hjl⟩
      obtain ⟨x1, rfl, hb1, hl1, d1, _⟩ := hc1 j c hc
      obtain ⟨x2, rfl, hb2, hl2, d2, _⟩ := hc2 j c hc
      have e1 : wr.cell? ⟨x1, j, none⟩ = _ := (hw.below.cell (p := ⟨x1, j, none⟩) hl1).trans d1
      have e2 : wr.cell? ⟨x2, j, none⟩ = _ := (hw.below.cell (p := ⟨x2, j, none⟩) hl2).trans d2
      have hj1 : (j : Int) < (q.length : Int) := by omega
      have hj0 : (0 : Int) ≤ (j : Int) := by omega
      clear hc hc1 hc2 d1 d2 c1S
      go_wp2_with fail
      go_quiet (fail)
      go_wp2_with fail
      exact ⟨⟨j + 1, rfl, by go_num, hjl, hw.drewN _⟩, by simp [intOf]; omega⟩
    · obtain rfl : j = q.length := by omega
      have hdec : decide ((q.length : Int) < (q.length : Int)) = false := by simp
      have c1' : wr.cell? ⟨bS, 1, none⟩ = _ := (hw.below.cell (p := ⟨bS, 1, none⟩) (show bS < w2.heap.size by omega)).trans c1S
      have g3 := g2.trans hw
      have hX3 := HX.out.fr g3
      have own3 := hw.row HO.out (by simp)
      have hnew : New w (.slice a1 q.length cap1) := fun k hk => (HO.out.lt k hk).1
      have hK := keep_any wr base bD n vI vN G (.slice a1 q.length cap1) q.length (intsOf q) hX3.all.core.drw (rowBase own3 HX.out.hb) hX3.hb HX.out.all.core.dsep
        (fun hk => by have h1 : w.heap.size ≤ bD := hnew bD hk; have h2 : bD < w.heap.size := HX.out.all.core.drw.blk.lt; omega) (fun k hk hk2 => by have := hnew _ hk; have := (HX.out.all.core.drw.ints.lt k hk2).2; omega) (fun k hk hk2 => by have := hnew _ hk; have := (HX.out.all.core.drw.marks.lt k hk2).2; omega) (fun k hk g hg hk2 => by have := hnew _ hk; have := ((HX.out.all.core.drw.each g hg).lt k hk2).2; omega)
        HX.out.n0 (by have := HX.out.n1; omega) (by have := HX.out.gl; omega) (by omega)
      have HF : Hid (Fr [] w wr ∧ New w (.slice a1 q.length cap1)) := ⟨g3, hnew⟩
      clear hc1 hc2 c1S g3 hX3 own3 hnew
      go_wp2_with fail
      refine hK.mono ?_
      rintro ev w3 ⟨rfl, hp⟩
      go_wp2_with fail
      go_ret
      exact ⟨rfl, keep_step HX.out HF.out.1 HF.out.2 hq9 hp⟩
end

end Go.Proofs.Ytjgnheelcbkahaa.dk
