/-
  The shelf: MayPut, Put, Delete.
-/
import Derived.Test.YtmeplfpnpogalaaKp6
namespace Go.Proofs.Ytmeplfpnpogalaa.kp
open Go.RowKit dk

theorem fieldStats (a b c : Int) (W : World) : (Instr.field 65 (.agg #[.int .i64 a, .int .i64 b, .int .i64 c]) 2).run Try.prog W = .ok (.int .i64 c) W := by
  kernel_rfl
theorem getE_err (l : List Ent) (k : ByteArray) : (getE l k).2 = 0 ∨ (getE l k).2 = 5 ∨ (getE l k).2 = 6 := by
  unfold getE
  split
  · split
    · split
      · exact .inr (.inr rfl)
      · exact .inl rfl
    · exact .inr (.inl rfl)
  · exact .inr (.inl rfl)
def mayPutE (l : List Ent) (k b : ByteArray) : Int := if (getE l k).2 = 0 then 4 else if (getE l k).2 = 6 then 6 else if usedN l + 24 + b.size > 6000 then 3 else 0

set_option maxRecDepth 100000 in
set_option maxHeartbeats 4000000 in
theorem shMayPut (w : World) (base b off : Nat) (v : Value) (l : List Ent) (k x : ByteArray) (hc : w.cell? ⟨b, off, none⟩ = some v) (hr : w.ownsRow base 145 3 v l.length (entsV l)) (hk : KeyOk k) (hm : Mono l k) (hl : l.length < 1073741824) (hu : usedN l < 1073741824) (hx : x.size ≤ 200) :
    Calls Try.prog 75 #[.pointer (some ⟨b, off, none⟩), .string k, .string x] w fun e w' => e = .returned (.int .i64 (mayPutE l k x)) ∧ Fr [] w w' := by
  have hblt : b < w.heap.size := block_lt_of_cell hc
  have C1 := shGet w base b off v l k hc hr hk hm hl
  have C2 : ∀ w', Fr [] w w' → _ := fun w' hf => shStats w' base b off v l ((hf.below.cell (p := ⟨b, off, none⟩) hblt).trans hc) (hf.row hr (by simp)) hl hu
  clear hc hr hk hm
  have HX : Hid (mayPutE l k x = if (getE l k).2 = 0 then 4 else if (getE l k).2 = 6 then 6 else if usedN l + 24 + x.size > 6000 then 3 else 0) := rfl
  have h3 := getE_err l k
  generalize getE l k = q at *
  obtain ⟨qb, qe⟩ := q
  dsimp only at h3 C1 HX
  rcases h3 with rfl | rfl | rfl
  · go_enter Try.func75, Try.ntmps75
    go_wp2_with fail
    refine C1.mono ?_
    rintro e w1 ⟨rfl, hf⟩
    go_wp2_with fail
    go_ret
    rw [HX.out]
    exact ⟨rfl, hf⟩
  · unfold statsV at C2
    generalize liveN l = n0 at *
    generalize deadN l = n1 at *
    generalize usedN l = n2 at *
    by_cases hfull : n2 + 24 + x.size > 6000
    · have HX2 : Hid (mayPutE l k x = 3) := by show _ = _; rw [HX.out]; simp; omega
      go_enter Try.func75, Try.ntmps75
      go_wp2_with fail
      refine C1.mono ?_
      rintro e w1 ⟨rfl, hf⟩
      go_wp2_with fail
      refine (C2 w1 hf).mono ?_
      rintro e w2 ⟨rfl, hf2⟩
      go_wp2_with (simp only [fieldStats])
      go_ret
      rw [HX2.out]
      exact ⟨rfl, hf.trans hf2⟩
    · have HX2 : Hid (mayPutE l k x = 0) := by show _ = _; rw [HX.out]; simp; omega
      go_enter Try.func75, Try.ntmps75
      go_wp2_with fail
      refine C1.mono ?_
      rintro e w1 ⟨rfl, hf⟩
      go_wp2_with fail
      refine (C2 w1 hf).mono ?_
      rintro e w2 ⟨rfl, hf2⟩
      go_wp2_with (simp only [fieldStats])
      go_ret
      rw [HX2.out]
      exact ⟨rfl, hf.trans hf2⟩
  · go_enter Try.func75, Try.ntmps75
    go_wp2_with fail
    refine C1.mono ?_
    rintro e w1 ⟨rfl, hf⟩
    go_wp2_with fail
    go_ret
    rw [HX.out]
    exact ⟨rfl, hf⟩

theorem row_ne {w : World} {b : Nat} {cs : Array Value} {t e : TypeId} {base size : Nat} {v : Value} {n : Nat} {xs : List Value} (hA : At w b cs t) (ht : t ≠ e) (hr : w.ownsRow base e size v n xs) : v.ownBlock ≠ some b := by
  intro h
  rcases hr.2 with ⟨rfl, _⟩ | ⟨g, cap, cur, rfl, _, hg, _⟩
  · cases h
  · cases h
    rw [hA] at hg
    cases hg
    exact ht rfl

set_option maxRecDepth 100000 in
set_option maxHeartbeats 8000000 in
theorem shPut (w : World) (base b off : Nat) (v : Value) (l : List Ent) (k x : ByteArray) (cs : Array Value) (t : TypeId) (hA : At w b cs t) (ht : t ≠ 145) (hcs : cs[off]? = some v) (hr : w.ownsRow base 145 3 v l.length (entsV l)) (hk : k.size ≤ 8) (hm : Mono l k) (hl : l.length < 1073741824) (hx : x.size ≤ 200) (hbb : base ≤ b) :
    Calls Try.prog 76 #[.pointer (some ⟨b, off, none⟩), .string k, .string x] w fun e w' => ∃ v', e = .returned (.tuple #[]) ∧ At w' b (cs.setIfInBounds off v') t ∧ w'.ownsRow base 145 3 v' (insertAt l (pos l k) ⟨k, x, false⟩).length (entsV (insertAt l (pos l k) ⟨k, x, false⟩)) ∧ Fr (b :: own v) w w' := by
  have hc : w.cell? ⟨b, off, none⟩ = some v := (hA.cell off).trans hcs
  have C1 := place w base b off v l k hc hr hm hl
  have hpl : pos l k ≤ l.length := List.countP_le_length
  have hblt := hA.lt
  obtain ⟨a, cap, rfl, hle, hmx, hcell⟩ := row3 hr
  clear hcell hm
  go_enter Try.func76, Try.ntmps76
  go_wp2_with fail
  refine C1.mono ?_
  rintro e w1 ⟨rfl, hf1⟩
  have hA1 := hf1.at hA (by simp)
  have hr1 := hf1.row hr (by simp)
  have hc1 : w1.cell? ⟨b, off, none⟩ = some (.slice a l.length cap) := (hA1.cell off).trans hcs
  have hz1 := hA1.frozen
  clear hA hr hc C1
  have hb1 := hA1.lt
  have hne := row_ne hA1 ht hr1
  have HNE : Hid (b ∉ own (Value.slice a l.length cap)) := by
    show b ∉ own (Value.slice a l.length cap)
    unfold own
    cases h : (Value.slice a l.length cap).ownBlock with
    | none => simp
    | some g => simp; intro e; exact hne (by rw [h, e])
  have HNB : Hid (∀ (n : Nat) (wB : World), w1.heap.size ≤ n → n ≤ wB.heap.size → (Value.slice a l.length cap).ownBlock ≠ some wB.heap.size) := fun n wB h1 h2 h => by have := (hr1.lt _ h).2; omega
  have HBS : Hid (∀ (n : Nat) (wB : World), w1.heap.size ≤ n → n ≤ wB.heap.size → base ≤ (wB.alloc (.cells #[.string k, .string x, .bool false] 145)).heap.size) := fun n wB h1 h2 => by have := hf1.size; simp; omega
  clear hne
  go_wp2_with fail
  go_region_with (first
    | (go_at_call 109; refine (clone k _ (by omega)).mono ?_; intro e wA hq; obtain ⟨he, hfA⟩ := hq; subst he; have hcA : wA.cell? ⟨b, off, none⟩ = some (.slice a l.length cap) := (hfA.below.cell (p := ⟨b, off, none⟩) hb1).trans hc1; have hbA : b < wA.heap.size := Nat.lt_of_lt_of_le hb1 hfA.size)
    | (go_at_call 109; refine (clone x _ (by omega)).mono ?_; intro e wB hq; obtain ⟨he, hfB⟩ := hq; subst he; have hcB : wB.cell? ⟨b, off, none⟩ = some (.slice a l.length cap) := (hfB.below.cell (p := ⟨b, off, none⟩) hbA).trans hcA; have hbB : b < wB.heap.size := Nat.lt_of_lt_of_le hbA hfB.size)
    | (go_at_call 108; have hrB := World.ownsRow.alloc (hfB.row (hfA.row (rowDrew hr1) (by simp)) (by simp)) (.cells #[.string k, .string x, .bool false] 145); refine (insert _ base _ l (pos l k) ⟨k, x, false⟩ wB.heap.size hrB hpl (at_alloc wB _ _) hl (HNB.out _ wB hfA.size hfB.size) (HBS.out _ wB hfA.size hfB.size)).mono ?_; intro e wC hq; obtain ⟨vC, he, hownC, hfC, _⟩ := hq; subst he; have hAC : At wC b cs t := hfC.at ((hfB.at (hfA.at hA1.drew (by simp)) (by simp)).alloc _) HNE.out; have hzC := hAC.frozen; have hcC : wC.cell? ⟨b, off, none⟩ = some (.slice a l.length cap) := (hAC.cell off).trans hcs; obtain ⟨aC, capC, hvC, _, _, _⟩ := row3 hownC; subst hvC))
  all_goals
    go_wp2_with fail
    go_end0
    have hF : Fr (b :: own (Value.slice a l.length cap)) w wC := ((((hf1.nil.drew).trans hfA.nil).trans hfB.nil).alloc _).trans (hfC.mono (fun g _ hg => List.mem_cons_of_mem b hg))
    exact ⟨_, rfl, hAC.set off _, rowSetOther hownC b off (row_ne hAC ht hownC) _, hF.setCell ⟨b, off, none⟩ (.inl (by simp)) _⟩

end Go.Proofs.Ytmeplfpnpogalaa.kp
