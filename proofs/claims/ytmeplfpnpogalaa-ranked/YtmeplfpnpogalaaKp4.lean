/-
  slices.Insert of one entry: three roads.
-/
import Derived.Test.YtmeplfpnpogalaaKp3
namespace Go.Proofs.Ytmeplfpnpogalaa.kp
open Go.RowKit dk

def insertAt (l : List Ent) (p : Nat) (c : Ent) : List Ent := l.take p ++ c :: l.drop p
theorem insertAt_length (l : List Ent) (p : Nat) (c : Ent) (hp : p ≤ l.length) : (insertAt l p c).length = l.length + 1 := by
  simp [insertAt]; omega
theorem entsV_take (l : List Ent) (p : Nat) : entsV (l.take p) = (entsV l).take (p * 3) := by
  induction l generalizing p with
  | nil => simp [entsV]
  | cons c l ih =>
    cases p with
    | zero => simp [entsV]
    | succ p =>
      have hc : c.vs.length = 3 := rfl
      show c.vs ++ entsV (l.take p) = (c.vs ++ entsV l).take ((p + 1) * 3)
      rw [ih p, show (p + 1) * 3 = c.vs.length + p * 3 by omega, List.take_length_add_append]
theorem entsV_drop (l : List Ent) (p : Nat) : entsV (l.drop p) = (entsV l).drop (p * 3) := by
  induction l generalizing p with
  | nil => simp [entsV]
  | cons c l ih =>
    cases p with
    | zero => simp
    | succ p =>
      have hc : c.vs.length = 3 := rfl
      show entsV (l.drop p) = (c.vs ++ entsV l).drop ((p + 1) * 3)
      rw [ih p, show (p + 1) * 3 = c.vs.length + p * 3 by omega, List.drop_length_add_append]
theorem entsV_insertAt (l : List Ent) (p : Nat) (c : Ent) : entsV (insertAt l p c) = (entsV l).take (p * 3) ++ c.vs ++ (entsV l).drop (p * 3) := by
  unfold insertAt
  rw [entsV_append, show c :: l.drop p = [c] ++ l.drop p from rfl, entsV_append, entsV_one, entsV_take, entsV_drop, List.append_assoc]
theorem Try.infoEntry : (Try.prog.info? 145).map (fun i => (i.zero, i.size, i.bytes)) = some (some (.agg #[.string ByteArray.empty, .string ByteArray.empty, .bool false]), 3, 40) := by kernel_rfl

def own (v : Value) : List Nat := v.ownBlock.toList
theorem Fr.ofGrown {w w' : World} {v : Value} (h : w.grownBy w' v.ownBlock) : Fr (own v) w w' :=
  (Fr.refl _ w).grown h (fun k hk => .inl (by simp [own, hk]))

theorem Fr.setRow {S : List Nat} {a w : World} (h : Fr S a w) (g : Nat) (hg : g ∈ S ∨ a.heap.size ≤ g) (cs : Array Value) : Fr S a (w.setRow g cs) :=
  ⟨h.os, h.tape, h.output, by simp [World.setRow]; exact h.size, fun k hk hn => (setRow_other w g k cs (fun e => by subst e; rcases hg with h1 | h1 <;> first | exact hn h1 | omega)).trans (h.block k hk hn)⟩
theorem ownBlock_cap (a : Option Addr) (n c n' c' : Nat) : (Value.slice a n c).ownBlock = (Value.slice a n' c').ownBlock := by cases a <;> rfl
theorem Fr.ofGrownS {w w' : World} {a : Option Addr} {n c : Nat} (h : w.grownBy w' (Value.slice a n c).ownBlock) (n' c' : Nat) : Fr (own (.slice a n' c')) w w' := by
  rw [ownBlock_cap a n c n' c'] at h
  exact Fr.ofGrown h

set_option maxHeartbeats 4000000 in
theorem insertEnd (w : World) (base : Nat) (v : Value) (l : List Ent) (c : Ent) (B : Nat) (hr : w.ownsRow base 145 3 v l.length (entsV l)) (hB : At w B c.vs.toArray 145) (hl : l.length < 1073741824) (hbase : base ≤ w.heap.size) :
    Calls Try.prog 108 #[v, .int .i64 l.length, .slice (some ⟨B, 0, none⟩) 1 1] w fun e w' => ∃ v', e = .returned v' ∧ w'.ownsRow base 145 3 v' (insertAt l l.length c).length (entsV (insertAt l l.length c)) ∧ Fr (own v) w w' ∧ (v'.ownBlock = v.ownBlock ∨ ∃ g, v'.ownBlock = some g ∧ w.heap.size ≤ g) := by
  have HR : Hid (w.ownsRow base 145 3 v l.length (entsV l)) := hr
  obtain ⟨a, cap, rfl, hle, hmx, hcell⟩ := row3 hr
  have HE : Hid (insertAt l l.length c = l ++ [c]) := by show _ = _; simp [insertAt]
  clear hr hcell
  go_enter Try.func108, Try.ntmps108
  go_wp2_with (at_builtin; refine wpList_app3 _ rfl (.tmp 23) (.tmp 24) 102 rfl base 145 Try.underlying102 Try.infoEntry (.slice a l.length cap) l rfl HR.out B c 145 rfl hB hl hbase ?_; intro g2 cap2 w2 hown2 hgrow2 hat2)
  all_goals
    go_ret
    rw [HE.out]
    refine ⟨_, rfl, hown2, Fr.ofGrownS hgrow2 _ _, ?_⟩
    rcases hat2 with h | h
    · exact .inl (h.symm.trans (ownBlock_cap _ _ _ _ _))
    · exact .inr ⟨g2, rfl, by omega⟩

theorem zeroCells_size (z : Array Value) (n : Nat) : (Builtin.zeroCells z n).size = n * z.size := by simp [Builtin.zeroCells]

set_option maxHeartbeats 8000000 in
set_option maxRecDepth 100000 in
/-- no room: a new row -/
theorem insertGrow (w : World) (base : Nat) (v : Value) (l : List Ent) (p : Nat) (c : Ent) (B : Nat) (hr : w.ownsRow base 145 3 v l.length (entsV l)) (hp : p < l.length) (hB : At w B c.vs.toArray 145) (hl : l.length < 1073741824) (hbase : base ≤ w.heap.size)
    (hroom : ∀ a n cap, v = .slice a n cap → cap < l.length + 1) :
    Calls Try.prog 108 #[v, .int .i64 p, .slice (some ⟨B, 0, none⟩) 1 1] w fun e w' => ∃ v', e = .returned v' ∧ w'.ownsRow base 145 3 v' (insertAt l p c).length (entsV (insertAt l p c)) ∧ Fr (own v) w w' ∧ (v'.ownBlock = v.ownBlock ∨ ∃ g, v'.ownBlock = some g ∧ w.heap.size ≤ g) := by
  rcases hr.2 with ⟨_, hn⟩ | ⟨g, cap, cur, rfl, hbg, hg, hle, hmx, hcs, hct⟩
  · omega
  have hcap : cap < l.length + 1 := hroom _ _ _ rfl
  obtain rfl : cap = l.length := by omega
  have hgl : g < w.heap.size := (Array.getElem?_eq_some_iff.1 hg).1
  have hcell : ∀ j u, (entsV l)[j]? = some u → w.cell? ⟨g, j, none⟩ = some u := fun j u hj => by
    have hjl : j < l.length * 3 := by have := (List.getElem?_eq_some_iff.1 hj).1; rw [entsV_length] at this; exact this
    rw [hr.cellAt j hjl, hj]
  obtain ⟨i0, hi0, hz0, hzs, hzb⟩ := info_parts Try.infoEntry
  have hsz : (Try.prog.info? 145).map (·.size) = some 3 := by rw [hi0]; simp [hzs]
  have hel := entsV_length l
  have hold : (Builtin.firstCells i0.size p (.slice (some ⟨g, 0, none⟩) p l.length)).run Try.prog w.drew = .ok ((entsV l).take (p * 3)).toArray w.drew := by
    rw [hzs]
    exact run_firstCells_some w.drew 3 p ⟨g, 0, none⟩ p l.length ((entsV l).take (p * 3)) (by rw [List.length_take]; omega) (fun j u hj => by
      rw [Addr.add_lit, Nat.zero_add]
      rw [List.getElem?_take] at hj
      split at hj
      · exact hcell j u hj
      · cases hj)
  have hkk : (l.length : Int) + 1 - (p : Int) = ((l.length + 1 - p : Nat) : Int) := by omega
  have hik : p + (l.length + 1 - p) = l.length + 1 := by omega
  have hrz : ∀ ty, (Builtin.append_ #[102, 3] ty #[.slice (some ⟨g, 0, none⟩) p l.length, .int .i64 ((l.length : Int) + 1 - (p : Int))]).run Try.prog w =
      .ok (.slice (some ⟨w.heap.size, 0, none⟩) (l.length + 1) (grownCap w (l.length + 1) l.length 145)) (w.drew.alloc (.cells (((entsV l).take (p * 3)).toArray ++ Builtin.zeroCells #[.string ByteArray.empty, .string ByteArray.empty, .bool false] (l.length + 1 - p) ++ Builtin.zeroCells #[.string ByteArray.empty, .string ByteArray.empty, .bool false] (grownCap w (l.length + 1) l.length 145 - (l.length + 1))) 145)) := fun ty => by
    have h := Lib.run_append_grow_zeros w 102 3 ty 145 i0 _ .i64 .i64 Try.underlying102 Try.underlying3 hi0 hz0 (some ⟨g, 0, none⟩) p l.length ((entsV l).take (p * 3)) hold (l.length + 1 - p) (by omega) (by omega) (by omega) (by omega) (by rw [hzb]; omega) (by rw [hzb, hik]; exact growslice_fits (by omega) (by omega))
    rw [hik] at h
    rw [hkk]
    exact h
  obtain ⟨G, hG⟩ : ∃ G, G = grownCap w (l.length + 1) l.length 145 := ⟨_, rfl⟩
  obtain ⟨ROW, hROW⟩ : ∃ ROW : Array Value, ROW = ((entsV l).take (p * 3)).toArray ++ Builtin.zeroCells #[.string ByteArray.empty, .string ByteArray.empty, .bool false] (l.length + 1 - p) ++ Builtin.zeroCells #[.string ByteArray.empty, .string ByteArray.empty, .bool false] (G - (l.length + 1)) := ⟨_, rfl⟩
  rw [← hG] at hrz
  rw [← hROW] at hrz
  have hGn : l.length + 1 ≤ G := by rw [hG]; exact grownCap_ge w _ _ _
  have hG63 : G ≤ maxLen := by
    rw [hG]
    exact grownCap_le_maxLen w (l.length + 1) l.length 145 (by unfold maxLen; omega)
  have hRl : ROW.size = G * 3 := by
    rw [hROW, Array.size_append, Array.size_append, zeroCells_size, zeroCells_size]
    simp only [List.size_toArray, List.length_take]
    simp
    omega
  have hRt : ROW.toList.take (p * 3) = (entsV l).take (p * 3) := by
    rw [hROW, Array.append_assoc, Array.toList_append, List.take_append_of_le_length (by simp; omega)]
    rw [List.take_take, Nat.min_self]
  have hcv : c.vs.length = 3 := rfl
  -- the two copies
  obtain ⟨H, hH⟩ : ∃ H, w.heap.size = H := ⟨_, rfl⟩
  obtain ⟨R2, hR2⟩ : ∃ R2 : Array Value, R2 = (ROW.toList.take (p * 3) ++ c.vs ++ ROW.toList.drop (p * 3 + c.vs.length)).toArray := ⟨_, rfl⟩
  obtain ⟨R3, hR3⟩ : ∃ R3 : Array Value, R3 = (R2.toList.take ((p + 1) * 3) ++ (entsV l).drop (p * 3) ++ R2.toList.drop ((p + 1) * 3 + ((entsV l).drop (p * 3)).length)).toArray := ⟨_, rfl⟩
  have hR2s : R2.size = G * 3 := by
    rw [hR2]
    simp
    omega
  have hR2t : R2.toList.take ((p + 1) * 3) = (entsV l).take (p * 3) ++ c.vs := by
    rw [hR2, hRt]
    rw [List.take_append_of_le_length (by simp; omega), List.take_of_length_le (by simp; omega)]
  have hR3s : R3.size = G * 3 := by
    rw [hR3]
    simp
    omega
  have hR3t : R3.toList.take ((l.length + 1) * 3) = entsV (insertAt l p c) := by
    rw [hR3, hR2t, entsV_insertAt]
    rw [List.take_append_of_le_length (by simp; omega), List.take_of_length_le (by simp; omega)]
  have hcpA : ∀ (W : World) ty dc, At W H ROW 145 → At W B c.vs.toArray 145 → (Builtin.copy_ #[102, 102] ty #[.slice (some ⟨H, p * 3, none⟩) (l.length + 1 - p) dc, .slice (some ⟨B, 0, none⟩) 1 1]).run Try.prog W = .ok (goInt (Nat.min 1 (l.length + 1 - p))) (W.setRow H R2) := fun W ty dc h1 h2 => by
    rw [hR2]
    exact run_copy3 W _ _ ty 145 H (p * 3) (l.length + 1 - p) dc ⟨B, 0, none⟩ 1 1 ROW 145 c.vs Try.underlying102 hsz h1 (by rw [hcv]; simp only [Nat.min_def]; split <;> omega) (news3 h2) (by omega) (one3 c)
  have hcpB : ∀ (W : World) ty dc sc, At W H R2 145 → W.heap[g]? = some (.cells cur 145 (0, 0)) → (Builtin.copy_ #[102, 102] ty #[.slice (some ⟨H, (p + 1) * 3, none⟩) (l.length + 1 - (p + 1)) dc, .slice (some ⟨g, p * 3, none⟩) (l.length - p) sc]).run Try.prog W = .ok (goInt (Nat.min (l.length - p) (l.length + 1 - (p + 1)))) (W.setRow H R3) := fun W ty dc sc h1 h2 => by
    rw [hR3]
    refine run_copy3 W _ _ ty 145 H ((p + 1) * 3) (l.length + 1 - (p + 1)) dc ⟨g, p * 3, none⟩ (l.length - p) sc R2 145 ((entsV l).drop (p * 3)) Try.underlying102 hsz h1 (by rw [List.length_drop, hel]; simp only [Nat.min_def]; split <;> omega) (fun j u hj => ?_) (by rw [List.length_drop, hel]; omega) (fun u hu => ones3 l u (List.mem_of_mem_drop hu))
    rw [Addr.add_lit]
    rw [List.getElem?_drop] at hj
    have := hcell _ u hj
    rw [cell_of_row w g _ cur _ _ hg] at this
    rw [cell_of_row W g _ cur _ _ h2]
    exact this
  have hgH : g ≠ H := by omega
  have hBH : B ≠ H := by have := hB.lt; omega
  have hAt1 : At (w.drew.alloc (.cells ROW 145)) H ROW 145 := by rw [← hH]; exact heap_alloc_new w.drew _
  have hAtB : At (w.drew.alloc (.cells ROW 145)) B c.vs.toArray 145 := At.alloc (w := w.drew) hB _
  have hAtg : (w.drew.alloc (.cells ROW 145)).heap[g]? = some (.cells cur 145 (0, 0)) := At.alloc (w := w.drew) (show At w.drew g cur 145 from hg) _
  have hFr1 : Fr [] w (w.drew.alloc (.cells ROW 145)) := ((Fr.refl [] w).drew).alloc _
  have hHn : w.heap.size = H := hH
  generalize w.drew.alloc (.cells ROW 145) = W1 at *
  have hAt2 : At (W1.setRow H R2) H R2 145 := setRow_heap W1 H ROW R2 145 (0, 0) hAt1
  have hAtg2 : (W1.setRow H R2).heap[g]? = some (.cells cur 145 (0, 0)) := (setRow_other W1 H g R2 hgH).trans hAtg
  have hGp : ¬ (G = p) := by omega
  have hGp1 : ¬ (G = p + 1) := by omega
  have hlp : ¬ (l.length = p) := by omega
  have hlp' : ¬ ((p : Int) = (l.length : Int)) := by omega
  have hw1 : IntKind.i64.wrap ((p : Int) + 1) = (p : Int) + 1 := by rw [IntKind.wrap_i64]; omega
  have hb1 : (0 : Int) ≤ (p : Int) + 1 := by omega
  have htn : ((p : Int) + 1).toNat = p + 1 := by omega
  have hb3 : (p : Int) + 1 ≤ (l.length : Int) + 1 := by omega
  have hb4 : (p : Int) ≤ (l.length : Int) := by omega
  have hrz' := hrz 102
  rw [hH] at hrz'
  have HFIN : Hid (∀ W3 : World, W3.heap[H]? = some (.cells R3 145 (0, 0)) → W3.ownsRow base 145 3 (.slice (some ⟨H, 0, none⟩) (l.length + 1) G) (insertAt l p c).length (entsV (insertAt l p c))) := by
    intro W3 h3
    rw [insertAt_length l p c (by omega)]
    refine ⟨by rw [entsV_length, insertAt_length l p c (by omega)], .inr ⟨H, G, R3, rfl, by omega, h3, hGn, hG63, hR3s, hR3t⟩⟩
  clear hold hkk hik hrz hROW hG hRl hRt hR2s hR2t hR3s hR3t hR2 hR3 hcell hroom hr hct hcs hel hsz hz0 hzs hzb hi0
  go_enter Try.func108, Try.ntmps108
  go_wp2_with (first
    | (at_builtin; refine Lib.wpList_append_run _ rfl _ _ _ _ rfl _ _ rfl rfl _ _ hrz' ?_)
    | (at_builtin; refine wpList_copyR _ rfl _ _ 102 102 rfl _ _ rfl rfl (hcpA _ _ _ hAt1 hAtB) ?_))
  go_region_law (refine step_copyR rfl _ _ 102 102 rfl (.slice (some ⟨H, (p + 1) * 3, none⟩) (l.length + 1 - (p + 1)) (G - (p + 1))) (.slice (some ⟨g, p * 3, none⟩) (l.length - p) (l.length - p)) (by simp [Act.eval, Act.put]) (by simp [Act.eval, Act.put]) (hcpB (W1.setRow H R2).drew _ _ _ hAt2 hAtg2) ?_)
  go_wp2
  go_ret
  have hF1 : Fr [] w (W1.setRow H R2) := Fr.setRow hFr1 H (.inr (by omega)) R2
  have hF2 : Fr [] w ((W1.setRow H R2).drew.setRow H R3) := Fr.setRow hF1.drew H (.inr (by omega)) R3
  exact ⟨_, rfl, HFIN.out _ (setRow_heap (W1.setRow H R2).drew H R2 R3 145 (0, 0) hAt2), hF2.nil, .inr ⟨H, rfl, by omega⟩⟩

set_option maxHeartbeats 8000000 in
set_option maxRecDepth 100000 in
/-- there is room: in place -/
theorem insertShift (w : World) (base : Nat) (v : Value) (l : List Ent) (p : Nat) (c : Ent) (B : Nat) (hr : w.ownsRow base 145 3 v l.length (entsV l)) (hp : p < l.length) (hB : At w B c.vs.toArray 145) (hl : l.length < 1073741824) (hne : v.ownBlock ≠ some B)
    (hroom : ∀ a n cap, v = .slice a n cap → l.length + 1 ≤ cap) :
    Calls Try.prog 108 #[v, .int .i64 p, .slice (some ⟨B, 0, none⟩) 1 1] w fun e w' => ∃ v', e = .returned v' ∧ w'.ownsRow base 145 3 v' (insertAt l p c).length (entsV (insertAt l p c)) ∧ Fr (own v) w w' ∧ (v'.ownBlock = v.ownBlock ∨ ∃ g, v'.ownBlock = some g ∧ w.heap.size ≤ g) := by
  rcases hr.2 with ⟨_, hn⟩ | ⟨g, cap, cur, rfl, hbg, hg, hle, hmx, hcs, hct⟩
  · omega
  have hcap : l.length + 1 ≤ cap := hroom _ _ _ rfl
  have hBg : B ≠ g := fun e => hne (by rw [e]; rfl)
  have hcell : ∀ j u, (entsV l)[j]? = some u → w.cell? ⟨g, j, none⟩ = some u := fun j u hj => by
    have hjl : j < l.length * 3 := by have := (List.getElem?_eq_some_iff.1 hj).1; rw [entsV_length] at this; exact this
    rw [hr.cellAt j hjl, hj]
  have hsz : (Try.prog.info? 145).map (·.size) = some 3 := by
    obtain ⟨i0, hi0, hz0, hzs, hzb⟩ := info_parts Try.infoEntry
    rw [hi0]; simp [hzs]
  have hel := entsV_length l
  have hcv : c.vs.length = 3 := rfl
  have hcur : cur.toList.length = cap * 3 := by rw [Array.length_toList]; exact hcs
  have hct2 : cur.toList.take (p * 3) = (entsV l).take (p * 3) := by
    rw [← hct, List.take_take, Nat.min_eq_left (by omega)]
  obtain ⟨R2, hR2⟩ : ∃ R2 : Array Value, R2 = (cur.toList.take ((p + 1) * 3) ++ (entsV l).drop (p * 3) ++ cur.toList.drop ((p + 1) * 3 + ((entsV l).drop (p * 3)).length)).toArray := ⟨_, rfl⟩
  obtain ⟨R3, hR3⟩ : ∃ R3 : Array Value, R3 = (R2.toList.take (p * 3) ++ c.vs ++ R2.toList.drop (p * 3 + c.vs.length)).toArray := ⟨_, rfl⟩
  have hR2s : R2.size = cap * 3 := by
    rw [hR2]
    simp
    omega
  have hR2t : R2.toList.take (p * 3) = (entsV l).take (p * 3) := by
    rw [hR2, List.toList_toArray, List.append_assoc, List.take_append_of_le_length (by rw [List.length_take]; omega), List.take_take, Nat.min_eq_left (by omega), hct2]
  have hR2d : R2.toList.drop (p * 3 + 3) = (entsV l).drop (p * 3) ++ cur.toList.drop ((p + 1) * 3 + ((entsV l).drop (p * 3)).length) := by
    have e : (cur.toList.take ((p + 1) * 3)).length = p * 3 + 3 := by rw [List.length_take]; omega
    rw [hR2, List.toList_toArray, List.append_assoc, ← e, List.drop_left]
  have hR3s : R3.size = cap * 3 := by
    rw [hR3]
    simp
    omega
  have hR3t : R3.toList.take ((l.length + 1) * 3) = entsV (insertAt l p c) := by
    rw [hR3, List.toList_toArray, hcv, hR2t, hR2d, entsV_insertAt, ← List.append_assoc]
    rw [List.take_append_of_le_length (by simp; omega), List.take_of_length_le (by simp; omega)]
  have hcpA : ∀ (W : World) ty dc sc, W.heap[g]? = some (.cells cur 145 (0, 0)) → (Builtin.copy_ #[102, 102] ty #[.slice (some ⟨g, (p + 1) * 3, none⟩) (l.length + 1 - (p + 1)) dc, .slice (some ⟨g, p * 3, none⟩) (l.length + 1 - p) sc]).run Try.prog W = .ok (goInt (Nat.min (l.length + 1 - p) (l.length + 1 - (p + 1)))) (W.setRow g R2) := fun W ty dc sc h2 => by
    rw [hR2]
    refine run_copy3 W _ _ ty 145 g ((p + 1) * 3) (l.length + 1 - (p + 1)) dc ⟨g, p * 3, none⟩ (l.length + 1 - p) sc cur 145 ((entsV l).drop (p * 3)) Try.underlying102 hsz h2 (by rw [List.length_drop, hel]; simp only [Nat.min_def]; split <;> omega) (fun j u hj => ?_) (by rw [List.length_drop, hel]; omega) (fun u hu => ones3 l u (List.mem_of_mem_drop hu))
    rw [Addr.add_lit]
    rw [List.getElem?_drop] at hj
    have := hcell _ u hj
    rw [cell_of_row w g _ cur _ _ hg] at this
    rw [cell_of_row W g _ cur _ _ h2]
    exact this
  have hcpB : ∀ (W : World) ty dc, At W g R2 145 → At W B c.vs.toArray 145 → (Builtin.copy_ #[102, 102] ty #[.slice (some ⟨g, p * 3, none⟩) (l.length + 1 - p) dc, .slice (some ⟨B, 0, none⟩) 1 1]).run Try.prog W = .ok (goInt (Nat.min 1 (l.length + 1 - p))) (W.setRow g R3) := fun W ty dc h1 h2 => by
    rw [hR3]
    exact run_copy3 W _ _ ty 145 g (p * 3) (l.length + 1 - p) dc ⟨B, 0, none⟩ 1 1 R2 145 c.vs Try.underlying102 hsz h1 (by rw [hcv]; simp only [Nat.min_def]; split <;> omega) (news3 h2) (by omega) (one3 c)
  have hAt2 : At (w.drew.setRow g R2) g R2 145 := setRow_heap w.drew g cur R2 145 (0, 0) hg
  have hAtB : At (w.drew.setRow g R2) B c.vs.toArray 145 := (setRow_other w.drew g B R2 hBg).trans hB
  have hov : ∀ lb cb, (callFunc 125 #[.slice (some ⟨B, 0, none⟩) 1 1, .slice (some ⟨g, (p + 1) * 3, none⟩) lb cb]).run Try.prog w = .ok (.value (.bool false)) w := fun lb cb => by
    rw [run_callFunc_extern Try.func125 (by kernel_rfl) (by kernel_rfl) (by kernel_rfl) (e := Extern.SlicesOverlaps.overlaps #[102, 102] #[4]) (by kernel_rfl),
      Lib.run_overlaps_apart w 102 4 145 Try.underlying102 3 Try.sizeOf145 ⟨B, 0, none⟩ ⟨g, (p + 1) * 3, none⟩ 1 1 lb cb hBg 145 145 3 (cap * 3) (by unfold World.shape?; rw [hB]; rfl) (by unfold World.shape?; rw [hg]; simp [hcs]) (by omega) (hB.frozen 0) (hB.frozen 3)]
    rfl
  have hcp : ¬ (cap = p) := by omega
  have hcp1 : ¬ (cap = p + 1) := by omega
  have hlp' : ¬ ((p : Int) = (l.length : Int)) := by omega
  have hw1 : IntKind.i64.wrap ((p : Int) + 1) = (p : Int) + 1 := by rw [IntKind.wrap_i64]; omega
  have hb1 : (0 : Int) ≤ (p : Int) + 1 := by omega
  have htn : ((p : Int) + 1).toNat = p + 1 := by omega
  have hb3 : (p : Int) + 1 ≤ (l.length : Int) + 1 := by omega
  have hb4 : (p : Int) ≤ (l.length : Int) := by omega
  have hb5 : (p : Int) ≤ (l.length : Int) + 1 := by omega
  have hmx2 : cap ≤ 9223372036854775807 := by unfold maxLen at hmx; omega
  have HFIN : Hid (∀ W3 : World, W3.heap[g]? = some (.cells R3 145 (0, 0)) → W3.ownsRow base 145 3 (.slice (some ⟨g, 0, none⟩) (l.length + 1) cap) (insertAt l p c).length (entsV (insertAt l p c))) := by
    intro W3 h3
    rw [insertAt_length l p c (by omega)]
    refine ⟨by rw [entsV_length, insertAt_length l p c (by omega)], .inr ⟨g, cap, R3, rfl, by omega, h3, hcap, hmx, hR3s, hR3t⟩⟩
  have hgd : w.drew.heap[g]? = some (.cells cur 145 (0, 0)) := hg
  clear hR2s hR2t hR2d hR3s hR3t hR2 hR3 hcell hroom hr hct hct2 hcur hcs hel hsz hne
  go_enter Try.func108, Try.ntmps108
  go_wp2_with (simp only [hov])
  go_region_law (refine step_copyR rfl _ _ 102 102 rfl (.slice (some ⟨g, (p + 1) * 3, none⟩) (l.length + 1 - (p + 1)) (cap - (p + 1))) (.slice (some ⟨g, p * 3, none⟩) (l.length + 1 - p) (cap - p)) (by simp [Act.eval, Act.put]) (by simp [Act.eval, Act.put]) (hcpA w.drew _ _ _ hgd) ?_)
  go_wp2_with (at_builtin; refine wpList_copyR _ rfl _ _ 102 102 rfl _ _ rfl rfl (hcpB _ _ _ hAt2 hAtB) ?_)
  go_ret
  have hS : g ∈ own (Value.slice (some ⟨g, 0, none⟩) l.length cap) := by simp [own, Value.ownBlock]
  have hF1 : Fr (own (Value.slice (some ⟨g, 0, none⟩) l.length cap)) w (w.drew.setRow g R2) := Fr.setRow (Fr.refl _ w).drew g (.inl hS) R2
  exact ⟨_, rfl, HFIN.out _ (setRow_heap (w.drew.setRow g R2) g R2 R3 145 (0, 0) hAt2), Fr.setRow hF1 g (.inl hS) R3, .inl rfl⟩

theorem insert (w : World) (base : Nat) (v : Value) (l : List Ent) (p : Nat) (c : Ent) (B : Nat) (hr : w.ownsRow base 145 3 v l.length (entsV l)) (hp : p ≤ l.length) (hB : At w B c.vs.toArray 145) (hl : l.length < 1073741824) (hne : v.ownBlock ≠ some B) (hbase : base ≤ w.heap.size) :
    Calls Try.prog 108 #[v, .int .i64 p, .slice (some ⟨B, 0, none⟩) 1 1] w fun e w' => ∃ v', e = .returned v' ∧ w'.ownsRow base 145 3 v' (insertAt l p c).length (entsV (insertAt l p c)) ∧ Fr (own v) w w' ∧ (v'.ownBlock = v.ownBlock ∨ ∃ g, v'.ownBlock = some g ∧ w.heap.size ≤ g) := by
  by_cases h : p = l.length
  · subst h
    exact insertEnd w base v l c B hr hB hl hbase
  · obtain ⟨a, cap, hv, hle, _, _⟩ := row3 hr
    by_cases hc : l.length + 1 ≤ cap
    · exact insertShift w base v l p c B hr (by omega) hB hl hne (fun a' n' cap' e => by rw [hv] at e; cases e; exact hc)
    · exact insertGrow w base v l p c B hr (by omega) hB hl hbase (fun a' n' cap' e => by rw [hv] at e; cases e; omega)
end Go.Proofs.Ytmeplfpnpogalaa.kp
