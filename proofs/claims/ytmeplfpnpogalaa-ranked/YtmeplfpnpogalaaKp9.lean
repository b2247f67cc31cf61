/-
  The shelf: Keys.
-/
import Derived.Test.YtmeplfpnpogalaaKp8
namespace Go.Proofs.Ytmeplfpnpogalaa.kp
open Go.RowKit dk

/-- the keys of those that are live -/
def liveK (l : List Ent) : List ByteArray := (l.filter fun e => !e.dead).map (·.key)
def fromL (l : List Ent) (k : ByteArray) : Nat := pos l k + if has l k then 1 else 0
def keysL (l : List Ent) (k : ByteArray) (n : Int) : List ByteArray := (liveK (l.drop (fromL l k))).take n.toNat
theorem liveK_take {l : List Ent} {j : Nat} {c : Ent} (hc : l[j]? = some c) : liveK (l.take (j + 1)) = liveK (l.take j) ++ if c.dead then [] else [c.key] := by
  cases hd : c.dead <;> simp [liveK, List.take_add_one, hc, hd]
theorem liveK_le (l : List Ent) : (liveK l).length ≤ l.length := by
  unfold liveK
  rw [List.length_map]
  exact List.length_filter_le ..
theorem liveK_append (a b : List Ent) : liveK (a ++ b) = liveK a ++ liveK b := by simp [liveK]
theorem fromL_le (l : List Ent) (k : ByteArray) : fromL l k ≤ l.length := by
  unfold fromL
  have h : pos l k ≤ l.length := List.countP_le_length
  cases hh : has l k with
  | false => simpa using h
  | true =>
    obtain ⟨e, he, _⟩ := has_some hh
    have := (List.getElem?_eq_some_iff.1 he).1
    simp
    omega
theorem liveK_prefix (l : List Ent) (j : Nat) (n : Nat) (h : (liveK (l.take j)).length = n) : liveK (l.take j) = (liveK l).take n := by
  have e : liveK l = liveK (l.take j) ++ liveK (l.drop j) := by rw [← liveK_append, List.take_append_drop]
  rw [e, ← h, List.take_left]

set_option maxRecDepth 100000 in
set_option maxHeartbeats 8000000 in
theorem shKeys (w : World) (base b off : Nat) (v : Value) (l : List Ent) (k : ByteArray) (n : Int) (hc : w.cell? ⟨b, off, none⟩ = some v) (hr : w.ownsRow base 145 3 v l.length (entsV l)) (hm : Mono l k) (hl : l.length < 1073741824) :
    Calls Try.prog 49 #[.pointer (some ⟨b, off, none⟩), .string k, .int .i64 n] w fun e w' => ∃ v', e = .returned v' ∧ w'.ownsRow w.heap.size 9 1 v' (keysL l k n).length (strsV (keysL l k n)) ∧ Fr [] w w' := by
  have hblt : b < w.heap.size := block_lt_of_cell hc
  have C1 := place w base b off v l k hc hr hm hl
  have hfl := fromL_le l k
  obtain ⟨a, cap, rfl, hle, hmx, hcell⟩ := row3 hr
  clear hr hm
  have HK : Hid (keysL l k n = (liveK (l.drop (fromL l k))).take n.toNat) := rfl
  have HF : Hid (fromL l k = pos l k + if has l k then 1 else 0) := rfl
  go_enter Try.func49, Try.ntmps49
  go_wp2_with fail
  refine C1.mono ?_
  rintro e w1 ⟨rfl, hf1⟩
  have hc1 : w1.cell? ⟨b, off, none⟩ = some (.slice a l.length cap) := (hf1.below.cell (p := ⟨b, off, none⟩) hblt).trans hc
  clear C1 hc
  generalize hp : pos l k = p at *
  generalize hh : has l k = q at *
  generalize fromL l k = f at *
  cases q
  · obtain rfl : f = p := by have := HF.out; simpa using this
    clear hp hh HF
    by_cases hfe : f = l.length
    · have HE : Hid (keysL l k n = []) := by show _ = _; rw [HK.out, hfe, List.drop_length]; simp [liveK]
      clear hcell
      have hz : l.length - (f) = 0 := by omega
      go_wp2_with fail
      all_goals
        go_loopw [9, 28] (fun o x wr => o = .slice none 0 0 ∧ x = .int .i64 0 ∧ w1 = wr) (fun _ _ _ => 0)
        case atStart => exact ⟨rfl, rfl, rfl⟩
        case round =>
          obtain ⟨rfl, rfl, rfl⟩ := hrel
          go_wp2_with fail
          go_ret
          rw [HE.out]
          exact ⟨_, rfl, World.ownsRow_nil _ _ _ _, hf1⟩
    · have hflt : f < l.length := by omega
      obtain ⟨g, rfl, hbg, hgl⟩ : ∃ g, a = some ⟨g, 0, none⟩ ∧ base ≤ g ∧ g < w.heap.size := by
        obtain ⟨g, h1, h2, h3, _⟩ := hcell (f) l[f] (List.getElem?_eq_getElem hflt)
        exact ⟨g, h1, h2, h3⟩
      have hcf : ¬ (cap = f) := by omega
      have HC : Hid (∀ j c, l[j]? = some c → w1.cell? ⟨g, j * 3, none⟩ = some (.string c.key) ∧ w1.cell? ⟨g, j * 3 + 1, none⟩ = some (.string c.blob) ∧ w1.cell? ⟨g, j * 3 + 2, none⟩ = some (.bool c.dead)) := by
        intro j c hj
        obtain ⟨g', h1, _, _, d0, d1, d2, _⟩ := hcell j c hj
        cases h1
        exact ⟨(hf1.below.cell (p := ⟨g, j * 3, none⟩) hgl).trans d0, (hf1.below.cell (p := ⟨g, j * 3 + 1, none⟩) hgl).trans d1, (hf1.below.cell (p := ⟨g, j * 3 + 2, none⟩) hgl).trans d2⟩
      have hgl1 : g < w1.heap.size := Nat.lt_of_lt_of_le hgl hf1.size
      have hsz1 := hf1.size
      clear hcell
      go_wp2_with fail
      go_loopw [9, 28] (fun o x wr => ∃ j : Nat, x = .int .i64 j ∧ j ≤ l.length - (f) ∧ (liveK ((l.drop (f)).take j)).length ≤ n.toNat ∧ wr.ownsRow w1.heap.size 9 1 o (liveK ((l.drop (f)).take j)).length (strsV (liveK ((l.drop (f)).take j))) ∧ Fr [] w1 wr) (fun _ x _ => l.length - (f) - (intOf x).toNat)
      case atStart => exact ⟨0, rfl, Nat.zero_le _, by simp [liveK], by simpa [liveK, strsV] using World.ownsRow_nil _ _ _ _, Fr.refl _ _⟩
      case round =>
        obtain ⟨j, rfl, hj, hjn, hown, hw⟩ := hrel
        have hlk := liveK_le ((l.drop (f)).take j)
        simp only [List.length_take, List.length_drop] at hlk
        obtain ⟨aO, capO, rfl, hleO, hmxO, _⟩ := rowS hown
        by_cases hlt : j < l.length - (f)
        · obtain ⟨c, hce⟩ : ∃ c, l[f + j]? = some c := ⟨l[f + j], List.getElem?_eq_getElem (by omega)⟩
          obtain ⟨d0, d1, d2⟩ := HC.out _ c hce
          rw [← hw.below.cell (p := ⟨g, (f + j) * 3, none⟩) hgl1] at d0
          rw [← hw.below.cell (p := ⟨g, (f + j) * 3 + 1, none⟩) hgl1] at d1
          rw [← hw.below.cell (p := ⟨g, (f + j) * 3 + 2, none⟩) hgl1] at d2
          rw [show (f + j) * 3 = (f) * 3 + j * 3 by omega] at d0 d1 d2
          have hgw : g < wr.heap.size := Nat.lt_of_lt_of_le hgl1 hw.size
          have HT : Hid (liveK ((l.drop (f)).take (j + 1)) = _) := liveK_take (by rw [List.getElem?_drop]; exact hce)
          have HP : Hid (∀ m, (liveK ((l.drop (f)).take j)).length = m → liveK ((l.drop (f)).take j) = (liveK (l.drop (f))).take m) := fun m hm => liveK_prefix _ j m hm
          generalize hQ : liveK ((l.drop (f)).take j) = Q at *
          clear hce
          by_cases hbr : n ≤ (Q.length : Int)
          · have HE : Hid (keysL l k n = Q) := by
              show _ = _
              rw [HK.out, ← HP.out n.toNat (by omega)]
            clear HP HT hQ
            go_wp2_with fail
            go_ret
            rw [HE.out]
            exact ⟨_, rfl, rowBase (hown.alloc _) hsz1, (hf1.trans hw).alloc _⟩
          · obtain ⟨ck, cb, cd⟩ := c
            clear HP hQ
            cases cd
            · have HT2 : Hid (liveK ((l.drop (f)).take (j + 1)) = Q ++ [ck]) := by show _ = _; rw [HT.out]; simp
              clear HT
              have hszw := hw.size
              go_wp2_with (at_builtin; refine wpList_appS _ rfl (.tmp 39) (.tmp 42) 29 rfl w1.heap.size 9 Try.underlying29 Try.infoStr (.slice aO Q.length capO) Q rfl ((hown.alloc _).alloc _) (wr.heap.size + 1) ck 9 rfl (at_alloc2 _ _ _ _) (by omega) (by simp; omega) ?_; intro g2 cap2 w2 hown2 hgrow2 hat2)
              refine ⟨⟨j + 1, by go_num, hlt, ?_, ?_, ?_⟩, by simp [intOf]; omega⟩
              · rw [HT2.out]; simp; omega
              · rw [HT2.out]; exact hown2
              · exact ((hw.alloc _).alloc _).grown hgrow2 (fun kk hk => .inr ((hown.lt kk hk).1))
            · have HT2 : Hid (liveK ((l.drop (f)).take (j + 1)) = Q) := by show _ = _; rw [HT.out]; simp
              clear HT
              go_wp2_with fail
              refine ⟨⟨j + 1, by go_num, hlt, ?_, ?_, hw.alloc _⟩, by simp [intOf]; omega⟩
              · rw [HT2.out]; exact hjn
              · rw [HT2.out]; exact hown.alloc _
        · obtain rfl : j = l.length - (f) := by omega
          have HE : Hid (keysL l k n = liveK ((l.drop (f)).take (l.length - (f)))) := by
            have e : (l.drop (f)).take (l.length - (f)) = l.drop (f) := List.take_of_length_le (by simp)
            show _ = _
            rw [e] at hjn ⊢
            rw [HK.out, List.take_of_length_le hjn]
          go_wp2_with fail
          go_ret
          rw [HE.out]
          exact ⟨_, rfl, rowBase hown hsz1, hf1.trans hw⟩
  · obtain rfl : f = p + 1 := by have := HF.out; simpa using this
    clear hp hh HF
    by_cases hfe : p + 1 = l.length
    · have HE : Hid (keysL l k n = []) := by show _ = _; rw [HK.out, hfe, List.drop_length]; simp [liveK]
      clear hcell
      have hz : l.length - (p + 1) = 0 := by omega
      go_wp2_with fail
      all_goals
        go_loopw [9, 28] (fun o x wr => o = .slice none 0 0 ∧ x = .int .i64 0 ∧ w1 = wr) (fun _ _ _ => 0)
        case atStart => exact ⟨rfl, rfl, rfl⟩
        case round =>
          obtain ⟨rfl, rfl, rfl⟩ := hrel
          go_wp2_with fail
          go_ret
          rw [HE.out]
          exact ⟨_, rfl, World.ownsRow_nil _ _ _ _, hf1⟩
    · have hflt : p + 1 < l.length := by omega
      obtain ⟨g, rfl, hbg, hgl⟩ : ∃ g, a = some ⟨g, 0, none⟩ ∧ base ≤ g ∧ g < w.heap.size := by
        obtain ⟨g, h1, h2, h3, _⟩ := hcell (p + 1) l[p + 1] (List.getElem?_eq_getElem hflt)
        exact ⟨g, h1, h2, h3⟩
      have hcf : ¬ (cap = p + 1) := by omega
      have HC : Hid (∀ j c, l[j]? = some c → w1.cell? ⟨g, j * 3, none⟩ = some (.string c.key) ∧ w1.cell? ⟨g, j * 3 + 1, none⟩ = some (.string c.blob) ∧ w1.cell? ⟨g, j * 3 + 2, none⟩ = some (.bool c.dead)) := by
        intro j c hj
        obtain ⟨g', h1, _, _, d0, d1, d2, _⟩ := hcell j c hj
        cases h1
        exact ⟨(hf1.below.cell (p := ⟨g, j * 3, none⟩) hgl).trans d0, (hf1.below.cell (p := ⟨g, j * 3 + 1, none⟩) hgl).trans d1, (hf1.below.cell (p := ⟨g, j * 3 + 2, none⟩) hgl).trans d2⟩
      have hgl1 : g < w1.heap.size := Nat.lt_of_lt_of_le hgl hf1.size
      have hsz1 := hf1.size
      clear hcell
      go_wp2_with fail
      go_loopw [9, 28] (fun o x wr => ∃ j : Nat, x = .int .i64 j ∧ j ≤ l.length - (p + 1) ∧ (liveK ((l.drop (p + 1)).take j)).length ≤ n.toNat ∧ wr.ownsRow w1.heap.size 9 1 o (liveK ((l.drop (p + 1)).take j)).length (strsV (liveK ((l.drop (p + 1)).take j))) ∧ Fr [] w1 wr) (fun _ x _ => l.length - (p + 1) - (intOf x).toNat)
      case atStart => exact ⟨0, rfl, Nat.zero_le _, by simp [liveK], by simpa [liveK, strsV] using World.ownsRow_nil _ _ _ _, Fr.refl _ _⟩
      case round =>
        obtain ⟨j, rfl, hj, hjn, hown, hw⟩ := hrel
        have hlk := liveK_le ((l.drop (p + 1)).take j)
        simp only [List.length_take, List.length_drop] at hlk
        obtain ⟨aO, capO, rfl, hleO, hmxO, _⟩ := rowS hown
        by_cases hlt : j < l.length - (p + 1)
        · obtain ⟨c, hce⟩ : ∃ c, l[p + 1 + j]? = some c := ⟨l[p + 1 + j], List.getElem?_eq_getElem (by omega)⟩
          obtain ⟨d0, d1, d2⟩ := HC.out _ c hce
          rw [← hw.below.cell (p := ⟨g, (p + 1 + j) * 3, none⟩) hgl1] at d0
          rw [← hw.below.cell (p := ⟨g, (p + 1 + j) * 3 + 1, none⟩) hgl1] at d1
          rw [← hw.below.cell (p := ⟨g, (p + 1 + j) * 3 + 2, none⟩) hgl1] at d2
          rw [show (p + 1 + j) * 3 = (p + 1) * 3 + j * 3 by omega] at d0 d1 d2
          have hgw : g < wr.heap.size := Nat.lt_of_lt_of_le hgl1 hw.size
          have HT : Hid (liveK ((l.drop (p + 1)).take (j + 1)) = _) := liveK_take (by rw [List.getElem?_drop]; exact hce)
          have HP : Hid (∀ m, (liveK ((l.drop (p + 1)).take j)).length = m → liveK ((l.drop (p + 1)).take j) = (liveK (l.drop (p + 1))).take m) := fun m hm => liveK_prefix _ j m hm
          generalize hQ : liveK ((l.drop (p + 1)).take j) = Q at *
          clear hce
          by_cases hbr : n ≤ (Q.length : Int)
          · have HE : Hid (keysL l k n = Q) := by
              show _ = _
              rw [HK.out, ← HP.out n.toNat (by omega)]
            clear HP HT hQ
            go_wp2_with fail
            go_ret
            rw [HE.out]
            exact ⟨_, rfl, rowBase (hown.alloc _) hsz1, (hf1.trans hw).alloc _⟩
          · obtain ⟨ck, cb, cd⟩ := c
            clear HP hQ
            cases cd
            · have HT2 : Hid (liveK ((l.drop (p + 1)).take (j + 1)) = Q ++ [ck]) := by show _ = _; rw [HT.out]; simp
              clear HT
              have hszw := hw.size
              go_wp2_with (at_builtin; refine wpList_appS _ rfl (.tmp 39) (.tmp 42) 29 rfl w1.heap.size 9 Try.underlying29 Try.infoStr (.slice aO Q.length capO) Q rfl ((hown.alloc _).alloc _) (wr.heap.size + 1) ck 9 rfl (at_alloc2 _ _ _ _) (by omega) (by simp; omega) ?_; intro g2 cap2 w2 hown2 hgrow2 hat2)
              refine ⟨⟨j + 1, by go_num, hlt, ?_, ?_, ?_⟩, by simp [intOf]; omega⟩
              · rw [HT2.out]; simp; omega
              · rw [HT2.out]; exact hown2
              · exact ((hw.alloc _).alloc _).grown hgrow2 (fun kk hk => .inr ((hown.lt kk hk).1))
            · have HT2 : Hid (liveK ((l.drop (p + 1)).take (j + 1)) = Q) := by show _ = _; rw [HT.out]; simp
              clear HT
              go_wp2_with fail
              refine ⟨⟨j + 1, by go_num, hlt, ?_, ?_, hw.alloc _⟩, by simp [intOf]; omega⟩
              · rw [HT2.out]; exact hjn
              · rw [HT2.out]; exact hown.alloc _
        · obtain rfl : j = l.length - (p + 1) := by omega
          have HE : Hid (keysL l k n = liveK ((l.drop (p + 1)).take (l.length - (p + 1)))) := by
            have e : (l.drop (p + 1)).take (l.length - (p + 1)) = l.drop (p + 1) := List.take_of_length_le (by simp)
            show _ = _
            rw [e] at hjn ⊢
            rw [HK.out, List.take_of_length_le hjn]
          go_wp2_with fail
          go_ret
          rw [HE.out]
          exact ⟨_, rfl, rowBase hown hsz1, hf1.trans hw⟩
end Go.Proofs.Ytmeplfpnpogalaa.kp
