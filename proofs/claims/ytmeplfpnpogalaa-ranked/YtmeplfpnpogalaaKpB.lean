/-
  The store: Put, Delete, Seal, Scrub, Open.
-/
import Derived.Test.YtmeplfpnpogalaaKpA
namespace Go.Proofs.Ytmeplfpnpogalaa.kp
open Go.RowKit dk Go.MuLone

def putL (l : List Ent) (k x : ByteArray) : List Ent := if mayPutE l k x = 0 then insertAt l (pos l k) ⟨k, x, false⟩ else l
def delL (l : List Ent) (k : ByteArray) : List Ent := if (getE l k).2 = 0 then (match l[pos l k]? with | some e => l.set (pos l k) ⟨e.key, ByteArray.empty, true⟩ | none => l) else l
theorem mayPutE_cases (l : List Ent) (k x : ByteArray) : mayPutE l k x = 0 ∨ mayPutE l k x = 3 ∨ mayPutE l k x = 4 ∨ mayPutE l k x = 6 := by
  unfold mayPutE
  split
  · exact .inr (.inr (.inl rfl))
  · split
    · exact .inr (.inr (.inr rfl))
    · split
      · exact .inr (.inl rfl)
      · exact .inl rfl
theorem getE_some {l : List Ent} {k : ByteArray} (h : (getE l k).2 = 0) : ∃ e, l[pos l k]? = some e := by
  unfold getE at h
  cases hh : has l k with
  | true => obtain ⟨e, he, _⟩ := has_some hh; exact ⟨e, he⟩
  | false => rw [hh] at h; simp at h

set_option maxRecDepth 100000 in
set_option maxHeartbeats 4000000 in
theorem stPut (w : World) (base s : Nat) (v : Value) (l : List Ent) (k x : ByteArray) (h : StoreAt w base s v l) (hk : KeyOk k) (hm : Mono l k) (hl : l.length < 1073741824) (hu : usedN l < 1073741824) (hx : x.size ≤ 200) :
    Calls Try.prog 38 #[.pointer (some ⟨s, 0, none⟩), .string k, .string x] w fun e w' => ∃ v', e = .returned (.int .i64 (mayPutE l k x)) ∧ StoreAt w' base s v' (putL l k x) ∧ Fr (s :: own v) w w' := by
  have hA1 := h.blk.set 0 (.int .i32 1)
  have hne := h.ne
  have hr1 := rowSetOther h.row s 0 hne (.int .i32 1)
  have C := shMayPut (w.setCell ⟨s, 0, none⟩ (.int .i32 1)) base s 2 v l k x (hA1.cell 2) hr1 hk hm hl hu hx
  have c0 := h.blk.cell 0
  have f0 := h.blk.frozen
  have hF0 : Fr (s :: own v) w (w.setCell ⟨s, 0, none⟩ (.int .i32 1)) := (Fr.refl _ w).setCell _ (.inl (by simp)) _
  have HP : Hid (putL l k x = if mayPutE l k x = 0 then insertAt l (pos l k) ⟨k, x, false⟩ else l) := rfl
  by_cases hz : mayPutE l k x = 0
  · have HP2 : Hid (putL l k x = insertAt l (pos l k) ⟨k, x, false⟩) := by show _ = _; rw [HP.out, if_pos hz]
    have HZ : Hid (mayPutE l k x = 0) := hz
    rw [hz] at C
    clear hz HP
    go_enter_defers Try.func38, Try.ntmps38
    go_wp2_with (go_at_call 44; refine (lock_free Try.muLib ⟨s, 0, none⟩ _ c0 (f0 0)).mono ?_; rintro e w' ⟨rfl, rfl⟩)
    refine C.mono ?_
    rintro e w2 ⟨rfl, hf2⟩
    have hA2 := hf2.at hA1 (by simp)
    go_wp2_with fail
    refine (shPut w2 base s 2 v l k x _ 106 hA2 (by decide) rfl (hf2.row hr1 (by simp)) hk.2.1 hm hl hx h.le).mono ?_
    rintro e w3 ⟨v3, rfl, hA3, hr3, hf3⟩
    go_wp2_with fail
    refine leaves_cons (f := 45) (args := #[.pointer (some ⟨s, 0, none⟩)]) (by simp) (by simp [go_sem]) ?_
    refine (unlock_deferred Try.muLib ⟨s, 0, none⟩ .returning _ (hA3.cell 0) (hA3.frozen 0)).mono ?_
    rintro e u' w'' ⟨rfl, rfl, rfl⟩
    refine ⟨_, results_tmp rfl _ _ _, v3, ?_, ⟨hA3.set 0 _, ?_, h.le⟩, ((hF0.trans hf2.nil).trans hf3).setCell _ (.inl (by simp)) _⟩
    · rw [HZ.out]; rfl
    · rw [HP2.out]
      exact rowSetOther hr3 s 0 (row_ne hA3 (by decide) hr3) _
  · have HP2 : Hid (putL l k x = l) := by show _ = _; rw [HP.out, if_neg hz]
    have hcs := mayPutE_cases l k x
    generalize hq : mayPutE l k x = q at *
    have HQ : Hid (mayPutE l k x = q) := hq
    clear HP hq
    have hz' : (q == 0) = false := by simpa using hz
    go_enter_defers Try.func38, Try.ntmps38
    go_wp2_with (go_at_call 44; refine (lock_free Try.muLib ⟨s, 0, none⟩ _ c0 (f0 0)).mono ?_; rintro e w' ⟨rfl, rfl⟩)
    refine C.mono ?_
    rintro e w2 ⟨rfl, hf2⟩
    have hA2 := hf2.at hA1 (by simp)
    go_wp2_with fail
    refine leaves_cons (f := 45) (args := #[.pointer (some ⟨s, 0, none⟩)]) (by simp) (by simp [go_sem]) ?_
    refine (unlock_deferred Try.muLib ⟨s, 0, none⟩ .returning _ (hA2.cell 0) (hA2.frozen 0)).mono ?_
    rintro e u' w'' ⟨rfl, rfl, rfl⟩
    refine ⟨_, results_tmp rfl _ _ _, v, rfl, ⟨hA2.set 0 _, ?_, h.le⟩, (hF0.trans hf2.nil).setCell _ (.inl (by simp)) _⟩
    rw [HP2.out]
    exact rowSetOther (hf2.row hr1 (by simp)) s 0 hne _

set_option maxRecDepth 100000 in
set_option maxHeartbeats 4000000 in
theorem stDelete (w : World) (base s : Nat) (v : Value) (l : List Ent) (k : ByteArray) (h : StoreAt w base s v l) (hk : KeyOk k) (hm : Mono l k) (hl : l.length < 1073741824) :
    Calls Try.prog 39 #[.pointer (some ⟨s, 0, none⟩), .string k] w fun e w' => e = .returned (.int .i64 (getE l k).2) ∧ StoreAt w' base s v (delL l k) ∧ Fr (s :: own v) w w' := by
  have hA1 := h.blk.set 0 (.int .i32 1)
  have hne := h.ne
  have hr1 := rowSetOther h.row s 0 hne (.int .i32 1)
  have C := shGet (w.setCell ⟨s, 0, none⟩ (.int .i32 1)) base s 2 v l k (hA1.cell 2) hr1 hk hm hl
  have c0 := h.blk.cell 0
  have f0 := h.blk.frozen
  have hF0 : Fr (s :: own v) w (w.setCell ⟨s, 0, none⟩ (.int .i32 1)) := (Fr.refl _ w).setCell _ (.inl (by simp)) _
  by_cases hz : (getE l k).2 = 0
  · obtain ⟨ent, hent⟩ := getE_some hz
    have HP2 : Hid (delL l k = l.set (pos l k) ⟨ent.key, ByteArray.empty, true⟩) := by show _ = _; unfold delL; rw [if_pos hz, hent]
    have HZ : Hid ((getE l k).2 = 0) := hz
    rw [hz] at C
    clear hz
    go_enter_defers Try.func39, Try.ntmps39
    go_wp2_with (go_at_call 44; refine (lock_free Try.muLib ⟨s, 0, none⟩ _ c0 (f0 0)).mono ?_; rintro e w' ⟨rfl, rfl⟩)
    refine C.mono ?_
    rintro e w2 ⟨rfl, hf2⟩
    have hA2 := hf2.at hA1 (by simp)
    go_wp2_with fail
    refine (shDelete w2 base s 2 v l k ent _ 106 hA2 (by decide) rfl (hf2.row hr1 (by simp)) hm hl hent).mono ?_
    rintro e w3 ⟨rfl, hA3, hr3, hf3⟩
    go_wp2_with fail
    refine leaves_cons (f := 45) (args := #[.pointer (some ⟨s, 0, none⟩)]) (by simp) (by simp [go_sem]) ?_
    refine (unlock_deferred Try.muLib ⟨s, 0, none⟩ .returning _ (hA3.cell 0) (hA3.frozen 0)).mono ?_
    rintro e u' w'' ⟨rfl, rfl, rfl⟩
    refine ⟨_, results_tmp rfl _ _ _, ?_, ⟨hA3.set 0 _, ?_, h.le⟩, ((hF0.trans hf2.nil).trans (hf3.mono (fun g _ hg => List.mem_cons_of_mem s hg))).setCell _ (.inl (by simp)) _⟩
    · rw [HZ.out]; rfl
    · rw [HP2.out]
      exact rowSetOther hr3 s 0 hne _
  · have HP2 : Hid (delL l k = l) := by show _ = _; unfold delL; rw [if_neg hz]
    have hcs := getE_err l k
    generalize hq : getE l k = q at *
    have HQ : Hid (getE l k = q) := hq
    clear hq
    obtain ⟨qb, qe⟩ := q
    dsimp only at hz hcs C
    have hz' : (qe == 0) = false := by simpa using hz
    go_enter_defers Try.func39, Try.ntmps39
    go_wp2_with (go_at_call 44; refine (lock_free Try.muLib ⟨s, 0, none⟩ _ c0 (f0 0)).mono ?_; rintro e w' ⟨rfl, rfl⟩)
    refine C.mono ?_
    rintro e w2 ⟨rfl, hf2⟩
    have hA2 := hf2.at hA1 (by simp)
    go_wp2_with fail
    refine leaves_cons (f := 45) (args := #[.pointer (some ⟨s, 0, none⟩)]) (by simp) (by simp [go_sem]) ?_
    refine (unlock_deferred Try.muLib ⟨s, 0, none⟩ .returning _ (hA2.cell 0) (hA2.frozen 0)).mono ?_
    rintro e u' w'' ⟨rfl, rfl, rfl⟩
    refine ⟨_, results_tmp rfl _ _ _, rfl, ⟨hA2.set 0 _, ?_, h.le⟩, (hF0.trans hf2.nil).setCell _ (.inl (by simp)) _⟩
    rw [HP2.out]
    exact rowSetOther (hf2.row hr1 (by simp)) s 0 hne _

theorem stSeal (w : World) (s : Nat) : Calls Try.prog 40 #[.pointer (some ⟨s, 0, none⟩)] w fun e w' => e = .returned (.int .i64 0) ∧ w' = w := by
  go_enter Try.func40, Try.ntmps40
  go_wp2
  go_ret
  exact ⟨rfl, rfl⟩
theorem stScrub (w : World) (s : Nat) : Calls Try.prog 42 #[.pointer (some ⟨s, 0, none⟩)] w fun e w' => e = .returned (.int .i64 0) ∧ w' = w := by
  go_enter Try.func42, Try.ntmps42
  go_wp2
  go_ret
  exact ⟨rfl, rfl⟩
theorem stOpen (w : World) (d : Nat) : Calls Try.prog 35 #[.pointer (some ⟨d, 0, none⟩)] w fun e w' => e = .returned (.tuple #[.pointer (some ⟨w.heap.size, 0, none⟩), .int .i64 0]) ∧ At w' w.heap.size #[.int .i32 0, .int .u32 0, .slice none 0 0] 106 ∧ Fr [] w w' ∧ w'.heap.size = w.heap.size + 1 := by
  go_enter Try.func35, Try.ntmps35
  go_wp2
  go_ret2
  exact ⟨rfl, heap_alloc_new w _, (Fr.refl _ _).alloc _, by simp⟩
end Go.Proofs.Ytmeplfpnpogalaa.kp
