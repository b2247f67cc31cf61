/-
  used, awake, opened.
-/
import Derived.Test.YtmeplfpnpogalaaKpD
namespace Go.Proofs.Ytmeplfpnpogalaa.kp
open Go.RowKit dk

def Kn.vs (k : Kn) : List Value := [.int .i64 k.state, .string k.blob]
def knV (l : List Kn) : List Value := l.flatMap Kn.vs
theorem knV_get (l : List Kn) (k j : Nat) (hj : j < 2) : (knV l)[k * 2 + j]? = (l[k]?).bind fun c => c.vs[j]? := by
  induction l generalizing k with
  | nil => simp [knV]
  | cons c l ih =>
    have hc : c.vs.length = 2 := rfl
    show (c.vs ++ knV l)[k * 2 + j]? = _
    cases k with
    | zero => rw [List.getElem?_append_left (by omega)]; simp
    | succ k =>
      rw [List.getElem?_append_right (by omega), hc, show (k + 1) * 2 + j - 2 = k * 2 + j by omega, ih k]
      simp
theorem knAt {w : World} {lb : Nat} {o : List Kn} {t : TypeId} (h : At w lb (knV o).toArray t) {j : Nat} {k : Kn} (hk : o[j]? = some k) : w.cell? ⟨lb, j * 2, none⟩ = some (.int .i64 k.state) ∧ w.cell? ⟨lb, j * 2 + 1, none⟩ = some (.string k.blob) := by
  have key : ∀ i, i < 2 → w.cell? ⟨lb, j * 2 + i, none⟩ = k.vs[i]? := fun i hi => by
    rw [h.cell, List.getElem?_toArray, knV_get o j i hi, hk]; rfl
  exact ⟨key 0 (by decide), key 1 (by decide)⟩

theorem usedK_take {o : List Kn} {j : Nat} {k : Kn} (hk : o[j]? = some k) : usedK (o.take (j + 1)) = usedK (o.take j) + if k.state > 0 then 24 + k.blob.size else 0 := by
  simp [usedK, List.take_add_one, hk]
theorem usedK_le (o : List Kn) (h : ∀ k ∈ o, k.Ok) : usedK o ≤ o.length * 224 := by
  induction o with
  | nil => simp [usedK]
  | cons k o ih =>
    have h1 := ih (fun x hx => h x (List.mem_cons_of_mem _ hx))
    have h2 := (h k (List.mem_cons_self ..)).size
    unfold usedK at h1 ⊢
    simp only [List.map_cons, List.sum_cons, List.length_cons]
    split <;> omega

set_option maxRecDepth 100000 in
set_option maxHeartbeats 4000000 in
theorem shopUsed (w : World) (hb lb : Nat) (o : List Kn) (hc : w.cell? ⟨hb, 2, none⟩ = some (.slice (some ⟨lb, 0, none⟩) 40 40)) (hL : At w lb (knV o).toArray 70) (h40 : o.length = 40) (hok : ∀ k ∈ o, k.Ok) :
    Calls Try.prog 37 #[.pointer (some ⟨hb, 0, none⟩)] w fun e w' => e = .returned (.int .i64 (usedK o)) ∧ w' = w := by
  go_enter Try.func37, Try.ntmps37
  go_wp2_with fail
  go_loopw [3, 4] (fun n x wr => ∃ j : Nat, n = .int .i64 (usedK (o.take j)) ∧ x = .int .i64 j ∧ j ≤ 40 ∧ w = wr) (fun _ x _ => 40 - (intOf x).toNat)
  case atStart => exact ⟨0, rfl, rfl, by decide, rfl⟩
  case round =>
    obtain ⟨j, rfl, rfl, hj, rfl⟩ := hrel
    by_cases hlt : j < 40
    · obtain ⟨k, hk⟩ : ∃ k, o[j]? = some k := ⟨o[j], List.getElem?_eq_getElem (by omega)⟩
      obtain ⟨d0, d1⟩ := knAt hL hk
      have HU : Hid (usedK (o.take (j + 1)) = _) := usedK_take hk
      have hb1 := usedK_le (o.take j) (fun x hx => hok x (List.mem_of_mem_take hx))
      rw [List.length_take] at hb1
      have hkok := hok k (List.mem_of_getElem? hk)
      have hb2 := hkok.size
      have hst := hkok.st
      generalize usedK (o.take j) = q at *
      obtain ⟨ks, kb⟩ := k
      dsimp only at *
      by_cases hs : 0 < ks
      · have HU2 : Hid (usedK (o.take (j + 1)) = q + (24 + kb.size)) := by show _ = _; rw [HU.out, if_pos hs]
        clear HU
        go_wp2_with fail
        exact ⟨⟨j + 1, by rw [HU2.out]; go_num, by go_num, hlt, trivial⟩, by simp [intOf]; omega⟩
      · have HU2 : Hid (usedK (o.take (j + 1)) = q) := by show _ = _; rw [HU.out, if_neg hs]; omega
        clear HU
        go_wp2_with fail
        exact ⟨⟨j + 1, by rw [HU2.out], by go_num, hlt, trivial⟩, by simp [intOf]; omega⟩
    · obtain rfl : j = 40 := by omega
      have HR : Hid (o.take 40 = o) := by show _ = _; rw [← h40, List.take_length]
      go_wp2_with fail
      go_ret
      rw [HR.out]
      exact ⟨rfl, rfl⟩
end Go.Proofs.Ytmeplfpnpogalaa.kp
