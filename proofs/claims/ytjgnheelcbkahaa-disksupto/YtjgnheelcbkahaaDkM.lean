/-
  Crash of the document's disk.
-/
import Derived.Test.YtjgnheelcbkahaaDkL
namespace Go.Proofs.Ytjgnheelcbkahaa.dk
open Go.RowKit

/-- what is left, and how many writes that were not safe were looked at -/
def refCrashStep (l : List Cel) (safe : Int) (keep : Int) (o : List Cel × Nat) (i : Nat) : List Cel × Nat :=
  match l[i]? with
  | some x => if decide ((i : Int) < safe) || x.sp then (o.1 ++ [x], o.2) else (if keepBit keep o.2 then o.1 ++ [x] else o.1, o.2 + 1)
  | none => o
def refCrashTo (l : List Cel) (safe : Int) (keep : Int) (n : Nat) : List Cel × Nat := (List.range n).foldl (refCrashStep l safe keep) ([], 0)
def refCrashL (l : List Cel) (safe : Int) (keep : Int) : List Cel := (refCrashTo l safe keep l.length).1

theorem refCrashTo_succ (l : List Cel) (safe : Int) (keep : Int) (n : Nat) : refCrashTo l safe keep (n + 1) = refCrashStep l safe keep (refCrashTo l safe keep n) n := by
  simp [refCrashTo, List.range_succ]
theorem refCrashTo_le (l : List Cel) (safe : Int) (keep : Int) (n : Nat) : (refCrashTo l safe keep n).1.length ≤ n ∧ (refCrashTo l safe keep n).2 ≤ n := by
  induction n with
  | zero => simp [refCrashTo]
  | succ n ih =>
    rw [refCrashTo_succ]
    unfold refCrashStep
    split
    · split
      · simp only [List.length_append, List.length_cons, List.length_nil]; omega
      · split
        · simp only [List.length_append, List.length_cons, List.length_nil]; omega
        · simp only; omega
    · omega

/-- one more of what is left -/
theorem crash_fin {w wr w6 : World} {v0 : Value} {q : List Cel} {c : Cel} {g6 cap6 : Nat} {X Y : Obj} (hA : At wr w.heap.size (refCells v0 0 (-1) false 0) 68) (hown : wr.ownsRow (w.heap.size + 1) 73 4 v0 q.length (cellsOf q)) (hw : Fr [] w wr)
    (hown6 : w6.ownsRow (w.heap.size + 1) 73 4 (.slice (some ⟨g6, 0, none⟩) (q.length + 1) cap6) (q ++ [c]).length (cellsOf (q ++ [c]))) (hgrow6 : ((wr.alloc X).alloc Y).drew.grownBy w6 v0.ownBlock) :
    At (w6.setCell ⟨w.heap.size, 0, none⟩ (.slice (some ⟨g6, 0, none⟩) (q.length + 1) cap6)) w.heap.size (refCells (.slice (some ⟨g6, 0, none⟩) (q.length + 1) cap6) 0 (-1) false 0) 68 ∧
      (w6.setCell ⟨w.heap.size, 0, none⟩ (.slice (some ⟨g6, 0, none⟩) (q.length + 1) cap6)).ownsRow (w.heap.size + 1) 73 4 (.slice (some ⟨g6, 0, none⟩) (q.length + 1) cap6) (q ++ [c]).length (cellsOf (q ++ [c])) ∧ Fr [] w (w6.setCell ⟨w.heap.size, 0, none⟩ (.slice (some ⟨g6, 0, none⟩) (q.length + 1) cap6)) := by
  have hnb : v0.ownBlock ≠ some w.heap.size := fun h => by have := (hown.lt _ h).1; omega
  have h6 := ((hA.alloc X).alloc Y).drew.grown hgrow6 hnb
  have hg : (Value.slice (some ⟨g6, 0, none⟩) (q.length + 1) cap6).ownBlock ≠ some w.heap.size := fun h => by have := (hown6.lt _ h).1; omega
  exact ⟨h6.set 0 _, rowSetOther hown6 _ _ hg _, (((hw.alloc X).alloc Y).drew.grown hgrow6 (fun k hk => .inr (by have := (hown.lt _ hk).1; omega))).setCell _ (.inr (Nat.le_refl _)) _⟩

set_option maxHeartbeats 8000000 in
theorem ref_crash (w : World) (base b : Nat) (vd : Value) (safe left : Int) (st : Bool) (steps : Int) (l : List Cel) (keep : Int) (_hk1 : -9223372036854775808 ≤ keep) (_hk2 : keep ≤ 9223372036854775807) (hA : At w b (refCells vd safe left st steps) 68) (hR : w.ownsRow base 73 4 vd l.length (cellsOf l)) (hm : l.length < 1073741824) :
    Calls Try.prog 41 #[.pointer (some ⟨b, 0, none⟩), .int .i64 keep] w fun e w' => ∃ v0, e = .returned (.pointer (some ⟨w.heap.size, 0, none⟩)) ∧ At w' w.heap.size (refCells v0 (refCrashL l safe keep).length (-1) false 0) 68 ∧ w'.ownsRow (w.heap.size + 1) 73 4 v0 (refCrashL l safe keep).length (cellsOf (refCrashL l safe keep)) ∧ Fr [] w w' := by
  have hbl := hA.lt
  obtain ⟨a, cap, rfl, hle, hmx, hcell⟩ := row4' hR
  obtain ⟨c0, c1, c2, c3, c4⟩ := ref_cells hA
  have HC0 : Hid (w.cell? ⟨b, 0, none⟩ = some (.slice a l.length cap) ∧ w.cell? ⟨b, 1, none⟩ = some (.int .i64 safe)) := ⟨c0, c1⟩
  have HL : Hid (refCrashL l safe keep = (refCrashTo l safe keep l.length).1) := rfl
  clear hA hR c0 c1 c2 c3 c4
  go_enter Try.func41, Try.ntmps41
  go_wp2_with fail
  refine (ref_new _).mono ?_
  rintro e w1 ⟨rfl, h1, hfr1, hsz1⟩
  have hne : ¬ b = w.heap.size := by omega
  go_wp2_with fail
  go_loopw [6, 7] (fun kk x wr => ∃ (i : Nat) (v0 : Value), kk = .int .i64 (refCrashTo l safe keep i).2 ∧ x = .int .i64 i ∧ i ≤ l.length ∧ At wr w.heap.size (refCells v0 0 (-1) false 0) 68 ∧ wr.ownsRow (w.heap.size + 1) 73 4 v0 (refCrashTo l safe keep i).1.length (cellsOf (refCrashTo l safe keep i).1) ∧ Fr [] w wr) (fun _ x _ => l.length - (intOf x).toNat)
  case atStart => exact ⟨0, .slice none 0 0, rfl, rfl, Nat.zero_le _, h1, World.ownsRow_nil _ _ _ _, hfr1⟩
  case round =>
    obtain ⟨i, v0, rfl, rfl, hi, hA, hown, hw⟩ := hrel
    obtain ⟨C0, C1⟩ := HC0.out
    have c0 : wr.cell? ⟨b, 0, none⟩ = _ := (hw.below.cell (p := ⟨b, 0, none⟩) hbl).trans C0
    have c1 : wr.cell? ⟨b, 1, none⟩ = _ := (hw.below.cell (p := ⟨b, 1, none⟩) hbl).trans C1
    have hsz := hA.lt
    have hbw : b < wr.heap.size := Nat.lt_of_lt_of_le hbl hw.size
    have hnb : v0.ownBlock ≠ some w.heap.size := fun h => by have := (hown.lt _ h).1; omega
    obtain ⟨k0, k1, k2, k3, k4⟩ := ref_cells hA
    have hf := hA.frozen
    clear h1 hfr1 C0 C1
    obtain ⟨hq1, hq2⟩ := refCrashTo_le l safe keep i
    by_cases hlt : i < l.length
    · obtain ⟨c, hc⟩ : ∃ c, l[i]? = some c := ⟨l[i], List.getElem?_eq_getElem hlt⟩
      obtain ⟨g, rfl, hbg, hgl, d0, d1, d2, d3⟩ := hcell i c hc
      rw [← hw.below.cell (p := ⟨g, i * 4, none⟩) hgl] at d0
      rw [← hw.below.cell (p := ⟨g, i * 4 + 1, none⟩) hgl] at d1
      rw [← hw.below.cell (p := ⟨g, i * 4 + 2, none⟩) hgl] at d2
      rw [← hw.below.cell (p := ⟨g, i * 4 + 3, none⟩) hgl] at d3
      have hgw : g < wr.heap.size := Nat.lt_of_lt_of_le hgl hw.size
      have HC : Hid (refCrashTo l safe keep (i + 1) = if decide ((i : Int) < safe) || c.sp then ((refCrashTo l safe keep i).1 ++ [c], (refCrashTo l safe keep i).2) else (if keepBit keep (refCrashTo l safe keep i).2 then (refCrashTo l safe keep i).1 ++ [c] else (refCrashTo l safe keep i).1, (refCrashTo l safe keep i).2 + 1)) := by
        show _ = _
        rw [refCrashTo_succ]
        unfold refCrashStep
        rw [hc]
      generalize refCrashTo l safe keep i = q at *
      obtain ⟨q, n⟩ := q
      simp only at hq1 hq2 hown
      clear hc hcell
      obtain ⟨cd, cb, cx, cs⟩ := c
      by_cases h1 : (i : Int) < safe
      · have hd : decide ((i : Int) < safe) = true := by simpa using h1
        have HC2 : Hid (refCrashTo l safe keep (i + 1) = (q ++ [⟨cd, cb, cx, cs⟩], n)) := by show _ = _; rw [HC.out, hd]; rfl
        clear HC
        go_wp2_with fail
        go_region_law (refine step_app4 _ rfl (.tmp 52) (.tmp 54) 66 rfl (w.heap.size + 1) 73 Try.underlying66 Try.infoDeed v0 q ?_ ?_ (wr.heap.size + 1) ⟨cd, cb, cx, cs⟩ 73 ?_ ?_ (by omega) ?_ ?_; (· simp [Act.eval]); (· exact rowDrew ((hown.alloc _).alloc _)); (· simp [Act.eval]); (· exact (at_alloc2 wr _ _ _).drew); (· rw [World.size_drew, World.size_alloc, World.size_alloc]; omega); intro g6 cap6 w6 hown6 hgrow6 hat6; have h6 := ((hA.alloc _).alloc _).drew.grown hgrow6 hnb; have hf6 := h6.frozen; obtain ⟨m0, m1, m2, m3, m4⟩ := ref_cells h6)
        all_goals
          obtain ⟨y1, y2, y3⟩ := crash_fin hA hown hw hown6 hgrow6
          have HY : Hid (_ ∧ _ ∧ _) := ⟨y1, y2, y3⟩
          clear y1 y2 y3 hown6 hgrow6 hat6 h6 hf6 m0 m1 m2 m3 m4
          go_wp2_with fail
          exact ⟨⟨i + 1, _, by rw [HC2.out], by go_num, hlt, HY.out.1, by rw [HC2.out]; exact HY.out.2.1, HY.out.2.2⟩, by simp [intOf]; omega⟩
      · have hd : decide ((i : Int) < safe) = false := by simpa using h1
        cases cs
        · cases hb : keepBit keep n with
          | false =>
            have hb2 : (bits BinOp.and IntKind.i64 (keep / 2 ^ (n % 62)) 1 == 1) = false := hb
            have HC2 : Hid (refCrashTo l safe keep (i + 1) = (q, n + 1)) := by show _ = _; rw [HC.out, hd]; simp [hb]
            clear HC hb
            go_wp2_with fail
            exact ⟨⟨i + 1, _, by rw [HC2.out]; go_num, by go_num, hlt, hA.alloc _, by rw [HC2.out]; exact hown.alloc _, hw.alloc _⟩, by simp [intOf]; omega⟩
          | true =>
            have hb2 : (bits BinOp.and IntKind.i64 (keep / 2 ^ (n % 62)) 1 == 1) = true := hb
            have HC2 : Hid (refCrashTo l safe keep (i + 1) = (q ++ [⟨cd, cb, cx, false⟩], n + 1)) := by show _ = _; rw [HC.out, hd]; simp [hb]
            clear HC hb
            go_wp2_with fail
            go_region_law (refine step_app4 _ rfl (.tmp 52) (.tmp 54) 66 rfl (w.heap.size + 1) 73 Try.underlying66 Try.infoDeed v0 q ?_ ?_ (wr.heap.size + 1) ⟨cd, cb, cx, false⟩ 73 ?_ ?_ (by omega) ?_ ?_; (· simp [Act.eval]); (· exact rowDrew ((hown.alloc _).alloc _)); (· simp [Act.eval]); (· exact (at_alloc2 wr _ _ _).drew); (· rw [World.size_drew, World.size_alloc, World.size_alloc]; omega); intro g6 cap6 w6 hown6 hgrow6 hat6; have h6 := ((hA.alloc _).alloc _).drew.grown hgrow6 hnb; have hf6 := h6.frozen; obtain ⟨m0, m1, m2, m3, m4⟩ := ref_cells h6)
            all_goals
              obtain ⟨y1, y2, y3⟩ := crash_fin hA hown hw hown6 hgrow6
              have HY : Hid (_ ∧ _ ∧ _) := ⟨y1, y2, y3⟩
              clear y1 y2 y3 hown6 hgrow6 hat6 h6 hf6 m0 m1 m2 m3 m4
              go_wp2_with fail
              exact ⟨⟨i + 1, _, by rw [HC2.out]; go_num, by go_num, hlt, HY.out.1, by rw [HC2.out]; exact HY.out.2.1, HY.out.2.2⟩, by simp [intOf]; omega⟩
        · have HC2 : Hid (refCrashTo l safe keep (i + 1) = (q ++ [⟨cd, cb, cx, true⟩], n)) := by show _ = _; rw [HC.out, hd]; rfl
          clear HC
          go_wp2_with fail
          go_region_law (refine step_app4 _ rfl (.tmp 52) (.tmp 54) 66 rfl (w.heap.size + 1) 73 Try.underlying66 Try.infoDeed v0 q ?_ ?_ (wr.heap.size + 1) ⟨cd, cb, cx, true⟩ 73 ?_ ?_ (by omega) ?_ ?_; (· simp [Act.eval]); (· exact rowDrew ((hown.alloc _).alloc _)); (· simp [Act.eval]); (· exact (at_alloc2 wr _ _ _).drew); (· rw [World.size_drew, World.size_alloc, World.size_alloc]; omega); intro g6 cap6 w6 hown6 hgrow6 hat6; have h6 := ((hA.alloc _).alloc _).drew.grown hgrow6 hnb; have hf6 := h6.frozen; obtain ⟨m0, m1, m2, m3, m4⟩ := ref_cells h6)
          all_goals
            obtain ⟨y1, y2, y3⟩ := crash_fin hA hown hw hown6 hgrow6
            have HY : Hid (_ ∧ _ ∧ _) := ⟨y1, y2, y3⟩
            clear y1 y2 y3 hown6 hgrow6 hat6 h6 hf6 m0 m1 m2 m3 m4
            go_wp2_with fail
            exact ⟨⟨i + 1, _, by rw [HC2.out], by go_num, hlt, HY.out.1, by rw [HC2.out]; exact HY.out.2.1, HY.out.2.2⟩, by simp [intOf]; omega⟩
    · obtain rfl : i = l.length := by omega
      obtain ⟨av, cv, rfl, _⟩ := row4' hown
      clear hcell
      go_wp2_with fail
      go_ret
      refine ⟨.slice av (refCrashTo l safe keep l.length).1.length cv, rfl, ?_, ?_, hw.setCell _ (.inr (Nat.le_refl _)) _⟩
      · rw [HL.out]; exact hA.set 1 _
      · rw [HL.out]; exact rowSetOther hown _ _ hnb _

end Go.Proofs.Ytjgnheelcbkahaa.dk
