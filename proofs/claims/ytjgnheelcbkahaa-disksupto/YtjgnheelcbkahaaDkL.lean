/-
  Crash of disk.Disk.
-/
import Derived.Test.YtjgnheelcbkahaaDkK
namespace Go.Proofs.Ytjgnheelcbkahaa.dk
open Go.RowKit

/-- is the write k kept? -/
def keepBit (keep : Int) (k : Nat) : Bool := bits BinOp.and IntKind.i64 (keep / 2 ^ (k % 62)) 1 == 1
/-- what is left when the first n of the loose writes were looked at -/
def crashStep (loose : List Cel) (keep : Int) (o : List Cel) (k : Nat) : List Cel :=
  match loose[k]? with
  | some c => if keepBit keep k then putL o c else o
  | none => o
def crashTo (safe loose : List Cel) (keep : Int) (n : Nat) : List Cel := (List.range n).foldl (crashStep loose keep) safe
def Dsk.crashed (D : Dsk) (keep : Int) : Dsk := { safe := crashTo D.safe D.loose keep D.loose.length, now := crashTo D.safe D.loose keep D.loose.length, loose := [], left := -1, steps := 0, stopped := false }

theorem crashTo_succ (safe loose : List Cel) (keep : Int) (n : Nat) : crashTo safe loose keep (n + 1) = crashStep loose keep (crashTo safe loose keep n) n := by
  simp [crashTo, List.range_succ]
theorem putL_le (l : List Cel) (c : Cel) : (putL l c).length ≤ l.length + 1 := by
  unfold putL others
  have := List.length_filter_le (fun x => !x.is c.dev c.blk) l
  rw [List.length_append]
  split
  · simp only [List.length_nil]; omega
  · simp only [List.length_cons, List.length_nil]; omega
theorem crashTo_le (safe loose : List Cel) (keep : Int) (n : Nat) : (crashTo safe loose keep n).length ≤ safe.length + n := by
  induction n with
  | zero => simp [crashTo]
  | succ n ih =>
    rw [crashTo_succ]
    unfold crashStep
    split
    · split
      · rename_i c _ _; have := putL_le (crashTo safe loose keep n) c; omega
      · omega
    · omega

set_option maxHeartbeats 4000000 in
theorem dsk_crash (w : World) (base b : Nat) (vs vn vl : Value) (D : Dsk) (keep : Int) (_hk1 : -9223372036854775808 ≤ keep) (_hk2 : keep ≤ 9223372036854775807) (hD : DiskAt w base b vs vn vl D) (hm : D.safe.length + D.loose.length < 1073741824) (_hbase : base ≤ w.heap.size) :
    Calls Try.prog 40 #[.pointer (some ⟨b, 0, none⟩), .int .i64 keep] w fun e w' => ∃ v0, e = .returned (.pointer (some ⟨w.heap.size, 0, none⟩)) ∧ DiskAt w' base w.heap.size v0 v0 (.slice none 0 0) (D.crashed keep) ∧ Fr [] w w' ∧ (v0 = vs ∨ New w v0) ∧ v0.ownBlock ≠ some w.heap.size := by
  have hbl := hD.blk.lt
  obtain ⟨a, cap, rfl, hle, hmx, hcell⟩ := row4' hD.loose
  obtain ⟨as0, ns, cs, hvs⟩ : ∃ as0 ns cs, vs = .slice as0 ns cs := by
    obtain ⟨x, y, e, _⟩ := row4' hD.safe
    exact ⟨x, _, y, e⟩
  subst hvs
  obtain ⟨c0, c1, c2, c3, c4, c5⟩ := dsk_cells hD.blk
  have HS : Hid (w.ownsRow base 70 4 (.slice as0 ns cs) D.safe.length (cellsOf D.safe)) := hD.safe
  clear hD c1 c3 c4 c5
  go_enter Try.func40, Try.ntmps40
  go_wp2_with fail
  refine (dsk_new _).mono ?_
  rintro e w1 ⟨rfl, h1, hfr1, hsz1⟩
  rw [← hfr1.below.cell (p := ⟨b, 0, none⟩) hbl] at c0
  rw [← hfr1.below.cell (p := ⟨b, 2, none⟩) hbl] at c2
  obtain ⟨k0, k1, k2, k3, k4, k5⟩ := dsk_cells h1
  have hf := h1.frozen
  have hne : ¬ b = w.heap.size := by omega
  go_wp2_with fail
  go_loopw [21] (fun x wr => ∃ (k : Nat) (v0 : Value), x = .int .i64 k ∧ k ≤ D.loose.length ∧ At wr w.heap.size (dskCells v0 (.slice none 0 0) (.slice none 0 0) (-1) 0 false) 65 ∧ wr.ownsRow base 70 4 v0 (crashTo D.safe D.loose keep k).length (cellsOf (crashTo D.safe D.loose keep k)) ∧ Fr [] w wr ∧ (v0 = .slice as0 ns cs ∨ New w v0) ∧ v0.ownBlock ≠ some w.heap.size) (fun x _ => D.loose.length - (intOf x).toNat)
  case atStart =>
    have hne1 : (Value.slice as0 ns cs).ownBlock ≠ some w.heap.size := fun h => by have := (HS.out.lt _ h).2; omega
    exact ⟨0, .slice as0 ns cs, rfl, Nat.zero_le _, h1.set 0 _, rowSetOther (hfr1.row HS.out (by simp)) _ _ hne1 _, hfr1.setCell _ (.inr (Nat.le_refl _)) _, .inl rfl, hne1⟩
  case round =>
    obtain ⟨k, v0, rfl, hk, hA, hown, hw, hv0, hnb⟩ := hrel
    have HV : Hid (v0 = .slice as0 ns cs ∨ New w v0) := hv0
    clear h1 hfr1 c0 c2 k0 k1 k2 k3 k4 k5 hf hv0
    have hsz := hA.lt
    obtain ⟨av, nv, cv, hvv⟩ : ∃ av nv cv, v0 = .slice av nv cv := by
      obtain ⟨x, y, e, _⟩ := row4' hown
      exact ⟨x, _, y, e⟩
    subst hvv
    have hlen := crashTo_le D.safe D.loose keep k
    by_cases hlt : k < D.loose.length
    · obtain ⟨c, hc⟩ : ∃ c, D.loose[k]? = some c := ⟨D.loose[k], List.getElem?_eq_getElem hlt⟩
      obtain ⟨g, rfl, hbg, hgl, d0, d1, d2, d3⟩ := hcell k c hc
      rw [← hw.below.cell (p := ⟨g, k * 4, none⟩) hgl] at d0
      rw [← hw.below.cell (p := ⟨g, k * 4 + 1, none⟩) hgl] at d1
      rw [← hw.below.cell (p := ⟨g, k * 4 + 2, none⟩) hgl] at d2
      rw [← hw.below.cell (p := ⟨g, k * 4 + 3, none⟩) hgl] at d3
      have HC : Hid (crashTo D.safe D.loose keep (k + 1) = if keepBit keep k then putL (crashTo D.safe D.loose keep k) c else crashTo D.safe D.loose keep k) := by
        show _ = _
        rw [crashTo_succ]
        unfold crashStep
        rw [hc]
      generalize crashTo D.safe D.loose keep k = q at *
      clear hc hcell
      cases hb : keepBit keep k with
      | false =>
        have hb2 : (bits BinOp.and IntKind.i64 (keep / 2 ^ (k % 62)) 1 == 1) = false := hb
        have HC2 : Hid (crashTo D.safe D.loose keep (k + 1) = q) := by show _ = _; rw [HC.out, hb]; rfl
        clear hb HC
        go_wp2_with fail
        exact ⟨⟨k + 1, _, by go_num, hlt, hA.alloc _, by rw [HC2.out]; exact hown.alloc _, hw.alloc _, HV.out, hnb⟩, by simp [intOf]; omega⟩
      | true =>
        have hb2 : (bits BinOp.and IntKind.i64 (keep / 2 ^ (k % 62)) 1 == 1) = true := hb
        have HC2 : Hid (crashTo D.safe D.loose keep (k + 1) = putL q c) := by show _ = _; rw [HC.out, hb]; rfl
        obtain ⟨k0, k1, k2, k3, k4, k5⟩ := dsk_cells hA
        have hf := hA.frozen
        obtain ⟨cd, cb, cx, cs2⟩ := c
        clear hb HC
        go_wp2_with fail
        go_region_with (go_at_call 24; refine (put_any _ base (.slice av nv cv) q ⟨cd, cb, cx, cs2⟩ ?_ (by omega)).mono ?_; (· exact rowDrew (hown.alloc _)); intro e w3 hq; obtain ⟨v3, he, hown3, hfr3⟩ := hq; subst he; have h3 := hfr3.at (hA.alloc _).drew (by simp); have hf3 := h3.frozen; obtain ⟨m0, m1, m2, m3, m4, m5⟩ := dsk_cells h3; obtain ⟨a3, n3, cap3, hv3⟩ : ∃ a3 n3 cap3, v3 = .slice a3 n3 cap3 := (by obtain ⟨x, y, e, _⟩ := row4' hown3; exact ⟨x, _, y, e⟩); subst hv3)
        all_goals
          have hf4 : Fr [] w w3 := ((hw.alloc _).drew).trans hfr3
          have hne3 : (Value.slice a3 n3 cap3).ownBlock ≠ some w.heap.size := fun h => by have := (hown3.lt _ h).1; simp at this; omega
          have hnew : New w (.slice a3 n3 cap3) := fun j hj => by have := (hown3.lt _ hj).1; simp at this; omega
          have hr4 := rowBase hown3 (base' := base) (by simp; omega)
          have h4 := h3.set 0 (.slice a3 n3 cap3)
          have HF : Hid (Fr [] w w3 ∧ New w (.slice a3 n3 cap3) ∧ (Value.slice a3 n3 cap3).ownBlock ≠ some w.heap.size ∧ w3.ownsRow base 70 4 (.slice a3 n3 cap3) (putL q ⟨cd, cb, cx, cs2⟩).length (cellsOf (putL q ⟨cd, cb, cx, cs2⟩))) := ⟨hf4, hnew, hne3, hr4⟩
          clear hf4 hne3 hnew hr4 hfr3 hown3 m0 m1 m2 m3 m4 m5 hf3 h3
          go_wp2_with fail
          exact ⟨⟨k + 1, _, by go_num, hlt, h4, by rw [HC2.out]; exact rowSetOther HF.out.2.2.2 _ _ HF.out.2.2.1 _, HF.out.1.setCell _ (.inr (Nat.le_refl _)) _, .inr HF.out.2.1, HF.out.2.2.1⟩, by simp [intOf]; omega⟩
    · obtain rfl : k = D.loose.length := by omega
      obtain ⟨k0, k1, k2, k3, k4, k5⟩ := dsk_cells hA
      have hf := hA.frozen
      clear hcell
      go_wp2_with fail
      go_ret
      have hr := rowSetOther hown w.heap.size 1 hnb (.slice av nv cv)
      exact ⟨_, rfl, ⟨hA.set 1 _, hr, hr, World.ownsRow_nil _ _ _ _⟩, hw.setCell _ (.inr (Nat.le_refl _)) _, HV.out, hnb⟩

end Go.Proofs.Ytjgnheelcbkahaa.dk
