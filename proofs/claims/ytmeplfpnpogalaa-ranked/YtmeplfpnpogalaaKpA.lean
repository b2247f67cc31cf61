/-
  The store: its methods hold the lock.
-/
import Derived.Test.YtmeplfpnpogalaaKp9
import Derived.Conc.MuLone
namespace Go.Proofs.Ytmeplfpnpogalaa.kp
open Go.RowKit dk Go.MuLone

/-- a store in the block s -/
structure StoreAt (w : World) (base s : Nat) (v : Value) (l : List Ent) : Prop where
  blk : At w s #[.int .i32 0, .int .u32 0, v] 106
  row : w.ownsRow base 145 3 v l.length (entsV l)
  le : base ≤ s
theorem StoreAt.fr {w w' : World} {base s : Nat} {v : Value} {l : List Ent} (h : StoreAt w base s v l) (hf : Fr [] w w') : StoreAt w' base s v l :=
  ⟨hf.at h.blk (by simp), hf.row h.row (by simp), h.le⟩
theorem StoreAt.ne {w : World} {base s : Nat} {v : Value} {l : List Ent} (h : StoreAt w base s v l) : v.ownBlock ≠ some s := row_ne h.blk (by decide) h.row

set_option maxRecDepth 100000 in
set_option maxHeartbeats 4000000 in
theorem stGet (w : World) (base s : Nat) (v : Value) (l : List Ent) (k : ByteArray) (h : StoreAt w base s v l) (hk : KeyOk k) (hm : Mono l k) (hl : l.length < 1073741824) :
    Calls Try.prog 20 #[.pointer (some ⟨s, 0, none⟩), .string k] w fun e w' => e = .returned (.tuple #[.string (getE l k).1, .int .i64 (getE l k).2]) ∧ StoreAt w' base s v l ∧ Fr [s] w w' := by
  have hA1 := h.blk.set 0 (.int .i32 1)
  have hne := h.ne
  have hr1 := rowSetOther h.row s 0 hne (.int .i32 1)
  have C := shGet (w.setCell ⟨s, 0, none⟩ (.int .i32 1)) base s 2 v l k (hA1.cell 2) hr1 hk hm hl
  have c0 := h.blk.cell 0
  have f0 := h.blk.frozen
  go_enter_defers Try.func20, Try.ntmps20
  go_wp2_with (go_at_call 44; refine (lock_free Try.muLib ⟨s, 0, none⟩ _ c0 (f0 0)).mono ?_; rintro e w' ⟨rfl, rfl⟩)
  refine C.mono ?_
  rintro e w2 ⟨rfl, hf2⟩
  go_wp2_with fail
  refine leaves_cons (f := 45) (args := #[.pointer (some ⟨s, 0, none⟩)]) (by simp) (by simp [go_sem]) ?_
  have hA2 := hf2.at hA1 (by simp)
  refine (unlock_deferred Try.muLib ⟨s, 0, none⟩ .returning _ (hA2.cell 0) (hA2.frozen 0)).mono ?_
  rintro e u' w'' ⟨rfl, rfl, rfl⟩
  refine ⟨_, results_tmp2 rfl _ _ _, rfl, ⟨hA2.set 0 _, rowSetOther (hf2.row hr1 (by simp)) s 0 hne _, h.le⟩, ?_⟩
  exact fr_set _ _ _ ((fr_set _ _ _ (Fr.refl _ _)).trans hf2.nil)

set_option maxRecDepth 100000 in
set_option maxHeartbeats 4000000 in
theorem stKeys (w : World) (base s : Nat) (v : Value) (l : List Ent) (k : ByteArray) (n : Int) (h : StoreAt w base s v l) (hm : Mono l k) (hl : l.length < 1073741824) :
    Calls Try.prog 22 #[.pointer (some ⟨s, 0, none⟩), .string k, .int .i64 n] w fun e w' => ∃ v', e = .returned v' ∧ w'.ownsRow w.heap.size 9 1 v' (keysL l k n).length (strsV (keysL l k n)) ∧ StoreAt w' base s v l ∧ Fr [s] w w' := by
  have hA1 := h.blk.set 0 (.int .i32 1)
  have hne := h.ne
  have hr1 := rowSetOther h.row s 0 hne (.int .i32 1)
  have C := shKeys (w.setCell ⟨s, 0, none⟩ (.int .i32 1)) base s 2 v l k n (hA1.cell 2) hr1 hm hl
  have c0 := h.blk.cell 0
  have f0 := h.blk.frozen
  go_enter_defers Try.func22, Try.ntmps22
  go_wp2_with (go_at_call 44; refine (lock_free Try.muLib ⟨s, 0, none⟩ _ c0 (f0 0)).mono ?_; rintro e w' ⟨rfl, rfl⟩)
  refine C.mono ?_
  rintro e w2 ⟨v2, rfl, hown2, hf2⟩
  rw [World.size_setCell] at hown2
  go_wp2_with fail
  refine leaves_cons (f := 45) (args := #[.pointer (some ⟨s, 0, none⟩)]) (by simp) (by simp [go_sem]) ?_
  have hA2 := hf2.at hA1 (by simp)
  refine (unlock_deferred Try.muLib ⟨s, 0, none⟩ .returning _ (hA2.cell 0) (hA2.frozen 0)).mono ?_
  rintro e u' w'' ⟨rfl, rfl, rfl⟩
  refine ⟨_, results_tmp rfl _ _ _, _, rfl, rowSetOther hown2 s 0 (fun hh => by have := (hown2.lt _ hh).1; have := h.blk.lt; omega) _, ⟨hA2.set 0 _, rowSetOther (hf2.row hr1 (by simp)) s 0 hne _, h.le⟩, ?_⟩
  exact fr_set _ _ _ ((fr_set _ _ _ (Fr.refl _ _)).trans hf2.nil)

set_option maxRecDepth 100000 in
set_option maxHeartbeats 4000000 in
theorem stStats (w : World) (base s : Nat) (v : Value) (l : List Ent) (h : StoreAt w base s v l) (hl : l.length < 1073741824) (hu : usedN l < 1073741824) :
    Calls Try.prog 19 #[.pointer (some ⟨s, 0, none⟩)] w fun e w' => e = .returned (.agg (statsV l)) ∧ StoreAt w' base s v l ∧ Fr [s] w w' := by
  have hlt := h.blk.lt
  have hB := h.blk.alloc (.cells #[.int .i64 0, .int .i64 0, .int .i64 0] 65)
  have hA1 := (h.blk.set 0 (.int .i32 1)).alloc (.cells #[.int .i64 0, .int .i64 0, .int .i64 0] 65)
  have hZ1 : At ((w.setCell ⟨s, 0, none⟩ (.int .i32 1)).alloc (.cells #[.int .i64 0, .int .i64 0, .int .i64 0] 65)) w.heap.size #[.int .i64 0, .int .i64 0, .int .i64 0] 65 := by
    have := at_alloc (w.setCell ⟨s, 0, none⟩ (.int .i32 1)) #[.int .i64 0, .int .i64 0, .int .i64 0] 65
    rwa [World.size_setCell] at this
  have hne := h.ne
  have hr1 := (rowSetOther h.row s 0 hne (.int .i32 1)).alloc (.cells #[.int .i64 0, .int .i64 0, .int .i64 0] 65)
  have C := shStats ((w.setCell ⟨s, 0, none⟩ (.int .i32 1)).alloc (.cells #[.int .i64 0, .int .i64 0, .int .i64 0] 65)) base s 2 v l (hA1.cell 2) hr1 hl hu
  have c0 := hB.cell 0
  have f0 := hB.frozen
  unfold statsV at C
  have HS : Hid (statsV l = #[.int .i64 (liveN l), .int .i64 (deadN l), .int .i64 (usedN l)]) := rfl
  go_enter_defers Try.func19, Try.ntmps19
  go_wp2_with (go_at_call 44; refine (lock_free Try.muLib ⟨s, 0, none⟩ _ c0 (f0 0)).mono ?_; rintro e w' ⟨rfl, rfl⟩)
  refine C.mono ?_
  rintro e w2 ⟨rfl, hf2⟩
  have hA2 := hf2.at hA1 (by simp)
  have hZ2 := hf2.at hZ1 (by simp)
  have z0 := hZ2.cell 0
  have z1 := hZ2.cell 1
  have z2 := hZ2.cell 2
  have zf := hZ2.frozen
  simp at z0 z1 z2
  go_wp2_with fail
  have hZ3 := ((hZ2.set 0 (.int .i64 (liveN l))).set 1 (.int .i64 (deadN l))).set 2 (.int .i64 (usedN l))
  have hA3 := ((hA2.setOther (b' := w.heap.size) (i := 0) (by omega) (.int .i64 (liveN l))).setOther (b' := w.heap.size) (i := 1) (by omega) (.int .i64 (deadN l))).setOther (b' := w.heap.size) (i := 2) (by omega) (.int .i64 (usedN l))
  have hnw : v.ownBlock ≠ some w.heap.size := fun hh => by have := (h.row.lt _ hh).2; omega
  have hr3 := rowSetOther (rowSetOther (rowSetOther (hf2.row hr1 (by simp)) w.heap.size 0 hnw (.int .i64 (liveN l))) w.heap.size 1 hnw (.int .i64 (deadN l))) w.heap.size 2 hnw (.int .i64 (usedN l))
  have hF1 : Fr [s] w ((w.setCell ⟨s, 0, none⟩ (.int .i32 1)).alloc (.cells #[.int .i64 0, .int .i64 0, .int .i64 0] 65)) := (fr_set _ _ _ (Fr.refl _ _)).alloc _
  have hF3 := (((hF1.trans hf2.nil).setCell ⟨w.heap.size, 0, none⟩ (.inr (Nat.le_refl _)) (.int .i64 (liveN l))).setCell ⟨w.heap.size, 1, none⟩ (.inr (Nat.le_refl _)) (.int .i64 (deadN l))).setCell ⟨w.heap.size, 2, none⟩ (.inr (Nat.le_refl _)) (.int .i64 (usedN l))
  refine leaves_cons (f := 45) (args := #[.pointer (some ⟨s, 0, none⟩)]) (by simp) (by simp [go_sem]) ?_
  refine (unlock_deferred Try.muLib ⟨s, 0, none⟩ .returning _ (hA3.cell 0) (hA3.frozen 0)).mono ?_
  rintro e u' w'' ⟨rfl, rfl, rfl⟩
  have hZ4 := hZ3.setOther (b' := s) (i := 0) (by omega) (.int .i32 0)
  refine ⟨_, results_cell_row rfl _ _ w.heap.size 65 (statsV l) (0, 0) _ rfl hZ4 Try.underlying65 rfl (by kernel_rfl), rfl, ⟨hA3.set 0 _, rowSetOther hr3 s 0 hne _, h.le⟩, ?_⟩
  exact fr_set _ _ _ hF3
end Go.Proofs.Ytmeplfpnpogalaa.kp
