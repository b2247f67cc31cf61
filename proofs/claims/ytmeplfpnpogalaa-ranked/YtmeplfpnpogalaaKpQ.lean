/-
  The order of entries; heap.up.
-/
import Derived.Test.YtmeplfpnpogalaaKpP
namespace Go.Proofs.Ytmeplfpnpogalaa.kp
open Go.RowKit dk

theorem toList3 (a b c : UInt8) : ByteArray.toList ⟨#[a, b, c]⟩ = [a, b, c] := by
  rw [ByteArray.toList, ByteArray.toList.loop, if_pos (by show 0 < 3; decide), ByteArray.toList.loop, if_pos (by show 1 < 3; decide), ByteArray.toList.loop, if_pos (by show 2 < 3; decide), ByteArray.toList.loop, if_neg (by show ¬ 3 < 3; decide)]
  rfl
theorem klD : (List.range 40).all (fun i => (List.range 40).all fun j => Op.bytesLess [107, (48 + i / 10).toUInt8, (48 + i % 10).toUInt8] [107, (48 + j / 10).toUInt8, (48 + j % 10).toUInt8] == decide (i < j)) = true := by kernel_rfl
theorem klK {i j : Nat} (hi : i < 40) (hj : j < 40) : kl (keyB i) (keyB j) = decide (i < j) := by
  have h := List.all_eq_true.1 (List.all_eq_true.1 klD i (List.mem_range.2 hi)) j (List.mem_range.2 hj)
  unfold kl keyB
  rw [toList3, toList3]
  simpa using h
def Good (e : Ent) : Prop := ∃ t, t < 40 ∧ e.key = keyB t
theorem leE_iff {x y : Ent} {a b : Nat} (ha : a < 40) (hb : b < 40) (hx : x.key = keyB a) (hy : y.key = keyB b) : leE x y ↔ (y.blob.size < x.blob.size ∨ (x.blob.size = y.blob.size ∧ a ≤ b)) := by
  unfold leE ahead
  rw [hx, hy, klK hb ha]
  by_cases h : y.blob.size = x.blob.size
  · rw [if_pos h]; simp; omega
  · rw [if_neg h]; simp; omega
theorem leE_trans {x y z : Ent} (hx : Good x) (hy : Good y) (hz : Good z) (h1 : leE x y) (h2 : leE y z) : leE x z := by
  obtain ⟨a, ha, ea⟩ := hx
  obtain ⟨b, hb, eb⟩ := hy
  obtain ⟨c, hc, ec⟩ := hz
  rw [leE_iff ha hb ea eb] at h1
  rw [leE_iff hb hc eb ec] at h2
  rw [leE_iff ha hc ea ec]
  omega
theorem leE_refl {x : Ent} (hx : Good x) : leE x x := by
  obtain ⟨a, ha, ea⟩ := hx
  rw [leE_iff ha ha ea ea]
  omega
theorem leE_total {x y : Ent} (hx : Good x) (hy : Good y) (h : ahead x y = true) : leE x y := by
  obtain ⟨a, ha, ea⟩ := hx
  obtain ⟨b, hb, eb⟩ := hy
  have h1 : ¬ leE y x := by unfold leE; rw [h]; simp
  rw [leE_iff hb ha eb ea] at h1
  rw [leE_iff ha hb ea eb]
  omega
/-- an order on all, that is that of the good ones -/
def leG (x y : Ent) : Prop := Good x ∧ Good y ∧ leE x y
theorem leG_trans : ∀ a b c, leG a b → leG b c → leG a c := fun _ _ _ h1 h2 => ⟨h1.1, h2.2.1, leE_trans h1.1 h1.2.1 h2.2.1 h1.2.2 h2.2.2⟩

def Goods (l : List Ent) : Prop := ∀ e ∈ l, Good e
theorem Goods.at {l : List Ent} (h : Goods l) {i : Nat} (hi : i < l.length) : Good (atE l i) := h _ (List.mem_of_getElem? (atE_get hi))

set_option maxRecDepth 100000 in
set_option maxHeartbeats 4000000 in
theorem heapUp (w : World) (base p : Nat) (v : Value) (l : List Ent) (j : Nat) (h : HeapAt w base p v l) (hg : Goods l) (hj : j < l.length) (hu : UpAt leG (atE l) l.length j) :
    Calls Try.prog 114 #[hI p, .int .i64 j] w fun e w' => ∃ l', e = .returned (.tuple #[]) ∧ HeapAt w' base p v l' ∧ l'.Perm l ∧ Heap leG (atE l') l.length ∧ Fr (own v) w w' := by
  unfold hI
  have hsm := h.small
  go_enter Try.func114, Try.ntmps114
  go_wp2_with fail
  go_loopw [1] (fun y wr => ∃ (i : Nat) (l' : List Ent), y = .int .i64 i ∧ i < l.length ∧ HeapAt wr base p v l' ∧ l'.Perm l ∧ Hid (UpAt leG (atE l') l.length i) ∧ Fr (own v) w wr) (fun y _ => (intOf y).toNat)
  case atStart => exact ⟨j, l, rfl, hj, h, List.Perm.refl _, hu, Fr.refl _ _⟩
  case round =>
    obtain ⟨i, l', rfl, hi, hH, hP, HU, hf⟩ := hrel
    have hlen := hP.length_eq
    have hg' : Goods l' := fun e he => hg e (hP.mem_iff.1 he)
    have c0 : wr.cell? ⟨p, 0, none⟩ = some v := hH.blk.cell 0
    have hmL := mLess wr p v c0
    have hmS := fun W (hW : W.cell? ⟨p, 0, none⟩ = some v) => mSwap W p v hW
    cases i with
    | zero =>
      go_wp2_with fail
      go_end0
      exact ⟨l', rfl, hH, hP, HU.out.done0, hf⟩
    | succ k =>
      have hkl : k / 2 < l'.length := by omega
      have hkl2 : k + 1 < l'.length := by omega
      have hq1 : ((k / 2 : Nat) : Int) = (k : Int) / 2 := by omega
      have hq2 : ((k + 1 : Nat) : Int) = (k : Int) + 1 := by omega
      have hne : ((k : Int) / 2 == (k : Int) + 1) = false := by simp; omega
      have hpar : (k + 1 - 1) / 2 = k / 2 := by omega
      have CL := lfLess wr base v l' (k + 1) (k / 2) _ _ hH.row (atE_get hkl2) (atE_get hkl)
      rw [hq1, hq2] at CL
      go_wp2_with fail
      refine CL.mono ?_
      rintro e w1 ⟨rfl, hf1⟩
      have hB1 := hf1.at hH.blk (by simp)
      have hr1 := hf1.row hH.row (by simp)
      have c1 : w1.cell? ⟨p, 0, none⟩ = some v := hB1.cell 0
      have hmS1 := hmS w1 c1
      clear hmS hmL CL c0
      cases hA : ahead (atE l' (k + 1)) (atE l' (k / 2)) with
      | false =>
        go_wp2_with fail
        go_end0
        exact ⟨l', rfl, ⟨hB1, hr1, hH.le, hH.small⟩, hP, HU.out.done (by rw [hpar]; exact ⟨hg'.at hkl, hg'.at hkl2, hA⟩), hf.trans hf1.nil⟩
      | true =>
        have CS := lfSwap w1 base v l' (k / 2) (k + 1) _ _ hr1 (atE_get hkl) (atE_get hkl2)
        rw [hq1, hq2] at CS
        go_wp2_with fail
        refine CS.mono ?_
        rintro e w2 ⟨rfl, hr2, hf2⟩
        go_wp2_with fail
        have hst := HU.out.step leG_trans (by omega) (by omega) (by rw [hpar]; exact ⟨hg'.at hkl2, hg'.at hkl, leE_total (hg'.at hkl2) (hg'.at hkl) hA⟩)
        rw [hpar, ← atE_swap hkl hkl2] at hst
        have hlen2 : ((l'.set (k / 2) (atE l' (k + 1))).set (k + 1) (atE l' (k / 2))).length = l'.length := by simp
        refine ⟨⟨k / 2, _, by rw [hq1], by omega, ⟨hf2.at hB1 (not_own hB1 (by decide) hr1), by rw [hlen2]; exact hr2, hH.le, by rw [hlen2]; exact hH.small⟩, (perm_swap (atE_get hkl) (atE_get hkl2)).trans hP, hst, (hf.trans hf1.nil).trans hf2⟩, ?_⟩
        simp [intOf]
        omega
end Go.Proofs.Ytmeplfpnpogalaa.kp
