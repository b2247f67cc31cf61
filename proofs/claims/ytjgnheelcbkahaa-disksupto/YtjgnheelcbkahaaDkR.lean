/-
  PLAIN: what the two disks tell is the same, and stays so.
-/
import Derived.Test.YtjgnheelcbkahaaDkQ
namespace Go.Proofs.Ytjgnheelcbkahaa.dk
open Go.RowKit

/-- the document's disk -/
structure Rsk where
  l : List Cel
  s : Nat
  left : Int
  down : Bool
  steps : Int

structure Sim (D : Dsk) (R : Rsk) : Prop where
  left : D.left = R.left
  steps : D.steps = R.steps
  stop : D.stopped = R.down
  gs : Gd D.safe
  gn : Gd D.now
  sl : ∀ c ∈ D.loose, c.data.size ≤ 2048
  now : ∀ d b, look D.now d b = blockL R.l d b
  crash : ∀ f d b, look (crashR f 0 D.safe D.loose) d b = blockL (refG R.l R.s f R.l.length).1 d b
  cnt : ∀ f, (refG R.l R.s f R.l.length).2 = D.loose.length
  sle : R.s ≤ R.l.length
  bad : ∀ c ∈ D.now, c.sp = true → (∀ x ∈ D.safe, x.is c.dev c.blk = true → x.sp = true) ∧ (∀ x ∈ D.loose, x.is c.dev c.blk = true → x.sp = true)

def newD : Dsk := { safe := [], now := [], loose := [], left := -1, steps := 0, stopped := false }
def newR : Rsk := { l := [], s := 0, left := -1, down := false, steps := 0 }

theorem sim_new : Sim newD newR :=
  ⟨rfl, rfl, rfl, Gd.nil, Gd.nil, by simp [newD], fun _ _ => rfl, fun _ _ _ => rfl, fun _ => rfl, Nat.le_refl _, by simp [newD]⟩

/-- numbers alone -/
theorem Sim.nums {D : Dsk} {R : Rsk} (h : Sim D R) (left steps : Int) (st : Bool) : Sim { D with left := left, steps := steps, stopped := st } { R with left := left, steps := steps, down := st } :=
  ⟨rfl, rfl, rfl, h.gs, h.gn, h.sl, h.now, h.crash, h.cnt, h.sle, h.bad⟩

theorem deed_write (d b : Int) (x : ByteArray × Bool) (c : Cel) (hc : c.sp = false) : deedStep d b x c = if c.is d b then (c.data, true) else x := by
  unfold deedStep; simp [hc]

theorem look_write (l : List Cel) (c : Cel) (hc : c.sp = false) (d b : Int) : look (putL l c) d b = if c.is d b then (c.data, true) else look l d b := by
  rw [look_putL]
  cases c.is d b with
  | false => rfl
  | true =>
    cases hn : noBytes c.data with
    | true => simp [(noBytes_iff _).1 hn]
    | false => simp [hc]

theorem Sim.write {D : Dsk} {R : Rsk} (h : Sim D R) (c : Cel) (hc : c.sp = false) (hs : c.data.size ≤ 2048) :
    Sim (D.wrote c) { l := R.l ++ [c], s := R.s, left := stepL D.left D.stopped, down := false, steps := D.steps + 1 } := by
  have hsn := fun f => refG_snoc R.l c R.s f h.sle
  refine ⟨rfl, rfl, rfl, h.gs, h.gn.putL c hs, ?_, ?_, ?_, ?_, ?_, ?_⟩
  · intro x hx
    rcases List.mem_append.1 hx with hx | hx
    · exact h.sl x hx
    · simp only [List.mem_singleton] at hx; subst hx; exact hs
  · intro d b
    show look (putL D.now c) d b = blockL (R.l ++ [c]) d b
    rw [blockL_snoc, deed_write _ _ _ _ hc, look_write _ _ hc, h.now]
  · intro f d b
    show look (crashR f 0 D.safe (D.loose ++ [c])) d b = blockL (refG (R.l ++ [c]) R.s f (R.l ++ [c]).length).1 d b
    rw [hsn f, crashR_snoc, Nat.zero_add, hc]
    simp only [Bool.false_eq_true, if_false]
    rw [h.cnt f]
    cases f D.loose.length with
    | false => exact h.crash f d b
    | true =>
      simp only [if_true]
      rw [blockL_snoc, deed_write _ _ _ _ hc, look_write _ _ hc, h.crash]
  · intro f
    show (refG (R.l ++ [c]) R.s f (R.l ++ [c]).length).2 = (D.loose ++ [c]).length
    rw [hsn f, hc]
    simp only [Bool.false_eq_true, if_false, List.length_append, List.length_singleton]
    rw [h.cnt f]
  · show R.s ≤ (R.l ++ [c]).length
    have := h.sle
    rw [List.length_append]; omega
  · intro x hx hsp
    have hx' : x ∈ putL D.now c := hx
    unfold putL others at hx'
    have hxo : x ∈ D.now ∧ x.is c.dev c.blk = false := by
      rcases List.mem_append.1 hx' with h1 | h1
      · simpa using List.mem_filter.1 h1
      · cases hn : noBytes c.data with
        | true => rw [hn] at h1; simp at h1
        | false =>
          rw [hn] at h1
          simp at h1
          subst h1
          rw [hc] at hsp; cases hsp
    obtain ⟨h1, h2⟩ := h.bad x hxo.1 hsp
    refine ⟨h1, ?_⟩
    intro y hy hi
    rcases List.mem_append.1 hy with hy | hy
    · exact h2 y hy hi
    · simp only [List.mem_singleton] at hy
      subst hy
      have e := (is_iff _ _ _).1 hi
      have : x.is y.dev y.blk = true := (is_iff _ _ _).2 ⟨e.1.symm, e.2.symm⟩
      rw [hxo.2] at this; cases this

theorem pair_uniq {l : List Cel} (h : Gd l) {x c : Cel} (hx : x ∈ l) (hc : c ∈ l) (hi : x.is c.dev c.blk = true) : x = c := by
  have e := (is_iff _ _ _).1 hi
  have hi2 : c.is x.dev x.blk = true := (is_iff _ _ _).2 ⟨e.1.symm, e.2.symm⟩
  have key : ∀ l : List Cel, l.Pairwise (fun a b => b.is a.dev a.blk = false) → x ∈ l → c ∈ l → x = c := by
    intro l
    induction l with
    | nil => intro _ h; simp at h
    | cons y l ih =>
      intro hp hx1 hc1
      rw [List.pairwise_cons] at hp
      rcases List.mem_cons.1 hx1 with e1 | hx2
      · rcases List.mem_cons.1 hc1 with e2 | hc2
        · rw [e1, e2]
        · have := hp.1 c hc2; rw [← e1, hi2] at this; cases this
      · rcases List.mem_cons.1 hc1 with e2 | hc2
        · have := hp.1 x hx2; rw [← e2, hi] at this; cases this
        · exact ih hp.2 hx2 hc2
  exact key l h.uniq hx hc

theorem Sim.sync {D : Dsk} {R : Rsk} (h : Sim D R) : Sim { D with safe := D.now, loose := [] } { R with s := R.l.length } := by
  refine ⟨h.left, h.steps, h.stop, h.gn, h.gn, by simp, h.now, ?_, ?_, Nat.le_refl _, ?_⟩
  · intro f d b
    show look D.now d b = blockL (refG R.l R.l.length f R.l.length).1 d b
    rw [refG_all R.l f R.l.length (Nat.le_refl _), List.take_length, h.now]
  · intro f
    show (refG R.l R.l.length f R.l.length).2 = 0
    rw [refG_all R.l f R.l.length (Nat.le_refl _)]
  · intro c hc hsp
    refine ⟨fun x hx hi => ?_, by simp⟩
    have e : x = c := pair_uniq h.gn hx hc hi
    rw [e]; exact hsp

theorem sim_crash {D : Dsk} {R : Rsk} (h : Sim D R) (keep : Int) : Sim (D.crashed keep) { l := refCrashL R.l R.s keep, s := (refCrashL R.l R.s keep).length, left := -1, down := false, steps := 0 } := by
  have e : crashTo D.safe D.loose keep D.loose.length = crashR (keepBit keep) 0 D.safe D.loose := by
    rw [crashTo_eq _ _ _ _ (Nat.le_refl _), List.take_length]
  have hg : Gd (crashTo D.safe D.loose keep D.loose.length) := by rw [e]; exact h.gs.crashR h.sl
  have hl : ∀ d b, look (crashTo D.safe D.loose keep D.loose.length) d b = blockL (refCrashL R.l R.s keep) d b := fun d b => by
    rw [e, h.crash (keepBit keep)]
    unfold refCrashL
    rw [refG_eq]
  refine ⟨rfl, rfl, rfl, hg, hg, by simp [Dsk.crashed], hl, ?_, ?_, Nat.le_refl _, ?_⟩
  · intro f d b
    show look (crashTo D.safe D.loose keep D.loose.length) d b = blockL (refG (refCrashL R.l R.s keep) (refCrashL R.l R.s keep).length f (refCrashL R.l R.s keep).length).1 d b
    rw [refG_all _ f _ (Nat.le_refl _), List.take_length, hl]
  · intro f
    show (refG (refCrashL R.l R.s keep) (refCrashL R.l R.s keep).length f (refCrashL R.l R.s keep).length).2 = 0
    rw [refG_all _ f _ (Nat.le_refl _)]
  · intro c hc hsp
    refine ⟨fun x hx hi => ?_, by simp [Dsk.crashed]⟩
    have ee : x = c := pair_uniq hg hx hc hi
    rw [ee]; exact hsp

theorem hasL_look {l : List Cel} (h : Gd l) (d b : Int) : hasL l d b = !noBytes (look l d b).1 := by
  unfold look hasL
  cases hf : l.find? (fun c => c.is d b) with
  | none =>
    have h2 : (l.any fun c => c.is d b) = false := by
      rw [List.any_eq_false]
      intro x hx
      have := List.find?_eq_none.1 hf x hx
      simpa using this
    rw [h2]; simp [noBytes_empty]
  | some c =>
    have h2 : (l.any fun c => c.is d b) = true := by
      rw [List.any_eq_true]
      exact ⟨c, List.mem_of_find?_eq_some hf, by simpa using List.find?_some hf⟩
    rw [h2, h.ne c (List.mem_of_find?_eq_some hf)]; rfl

theorem spoilL_same {l : List Cel} {d b : Int} (h : ∀ x ∈ l, x.is d b = true → x.sp = true) : spoilL l d b = l := by
  unfold spoilL
  conv => rhs; rw [← List.map_id l]
  apply List.map_congr_left
  intro x hx
  unfold spo
  cases hi : x.is d b with
  | false => rfl
  | true =>
    have := h x hx hi
    cases x
    simp_all

theorem Sim.spoil {D : Dsk} {R : Rsk} (h : Sim D R) (d0 b0 : Int) : Sim (D.spoilt d0 b0) { R with l := refSpoilL R.l d0 b0 } := by
  have hl := h.now d0 b0
  unfold Dsk.spoilt refSpoilL
  rw [hasL_look h.gn, ← hl]
  cases hn : noBytes (look D.now d0 b0).1 with
  | true => exact h
  | false =>
    simp only [Bool.not_false, if_true, Bool.false_eq_true, if_false]
    cases hw : (look D.now d0 b0).2 with
    | false =>
      simp only [Bool.false_eq_true, if_false]
      -- it is spoilt already
      obtain ⟨c, hc, hi, hsp⟩ : ∃ c ∈ D.now, c.is d0 b0 = true ∧ c.sp = true := by
        unfold look at hw
        cases hf : D.now.find? (fun c => c.is d0 b0) with
        | none => rw [hf] at hw; cases hw
        | some c =>
          rw [hf] at hw
          exact ⟨c, List.mem_of_find?_eq_some hf, by simpa using List.find?_some hf, by simpa using hw⟩
      have e := (is_iff _ _ _).1 hi
      obtain ⟨h1, h2⟩ := h.bad c hc hsp
      rw [e.1, e.2] at h1 h2
      have h3 : ∀ x ∈ D.now, x.is d0 b0 = true → x.sp = true := fun x hx hxi => by
        have : x = c := pair_uniq h.gn hx hc (by rw [e.1, e.2]; exact hxi)
        rw [this]; exact hsp
      rw [spoilL_same h1, spoilL_same h2, spoilL_same h3]
      exact h
    | true =>
      simp only [if_true]
      have hsn := fun f => refG_snoc R.l ⟨d0, b0, ByteArray.empty, true⟩ R.s f h.sle
      have hds : ∀ d b (x : ByteArray × Bool), deedStep d b x ⟨d0, b0, ByteArray.empty, true⟩ = if d = d0 ∧ b = b0 then (x.1, noBytes x.1) else x := by
        intro d b x
        unfold deedStep
        by_cases hk : d = d0 ∧ b = b0
        · obtain ⟨rfl, rfl⟩ := hk
          simp [Cel.is]
        · have : Cel.is ⟨d0, b0, ByteArray.empty, true⟩ d b = false := by
            cases h3 : Cel.is ⟨d0, b0, ByteArray.empty, true⟩ d b with
            | false => rfl
            | true => have e := (is_iff _ _ _).1 h3; exact absurd ⟨e.1.symm, e.2.symm⟩ hk
          rw [this, if_neg hk]; rfl
      refine ⟨h.left, h.steps, h.stop, h.gs.spoilL _ _, h.gn.spoilL _ _, ?_, ?_, ?_, ?_, ?_, ?_⟩
      · intro x hx
        obtain ⟨y, hy, rfl⟩ := List.mem_map.1 hx
        rw [spo_data]; exact h.sl y hy
      · intro d b
        show look (spoilL D.now d0 b0) d b = blockL (R.l ++ [_]) d b
        rw [blockL_snoc, hds, look_spoilL h.gn, h.now]
      · intro f d b
        show look (crashR f 0 (spoilL D.safe d0 b0) (spoilL D.loose d0 b0)) d b = blockL (refG (R.l ++ [_]) R.s f (R.l ++ [_]).length).1 d b
        rw [hsn f, crashR_spoil, look_spoilL (h.gs.crashR h.sl), h.crash]
        simp only [if_true]
        rw [blockL_snoc, hds]
      · intro f
        show (refG (R.l ++ [_]) R.s f (R.l ++ [_]).length).2 = (spoilL D.loose d0 b0).length
        rw [hsn f, spoilL_length]
        simp only [if_true]
        exact h.cnt f
      · show R.s ≤ (R.l ++ [_]).length
        have := h.sle
        rw [List.length_append]; omega
      · intro x hx hsp
        obtain ⟨y, hy, rfl⟩ := List.mem_map.1 hx
        rw [spo_dev, spo_blk]
        have gen : ∀ L : List Cel, (∀ z ∈ L, y.sp = true → z.is y.dev y.blk = true → z.sp = true) → ∀ z ∈ spoilL L d0 b0, z.is y.dev y.blk = true → z.sp = true := by
          intro L hL z hz hzi
          obtain ⟨u, hu, rfl⟩ := List.mem_map.1 hz
          rw [spo_is] at hzi
          unfold spo
          cases hui : u.is d0 b0 with
          | true => rfl
          | false =>
            have hy0 : y.is d0 b0 = false := by
              cases h3 : y.is d0 b0 with
              | false => rfl
              | true =>
                have e1 := (is_iff _ _ _).1 h3
                rw [e1.1, e1.2, hui] at hzi; cases hzi
            have hys : y.sp = true := by
              have := hsp
              unfold spo at this
              rw [hy0] at this
              exact this
            exact hL u hu hys hzi
        exact ⟨gen _ (fun z hz hys hzi => (h.bad y hy hys).1 z hz hzi), gen _ (fun z hz hys hzi => (h.bad y hy hys).2 z hz hzi)⟩

theorem sim_read {D : Dsk} {R : Rsk} (h : Sim D R) (d b : Int) : readL D.now d b = refReadL R.l d b := by
  unfold refReadL
  rw [← h.now]
  unfold readL look
  cases D.now.find? (fun c => c.is d b) with
  | none => rfl
  | some c => cases hs : c.sp <;> simp [hs]

end Go.Proofs.Ytjgnheelcbkahaa.dk
