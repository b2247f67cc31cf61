/-
  awake, opened.
-/
import Derived.Test.YtmeplfpnpogalaaKpE
namespace Go.Proofs.Ytmeplfpnpogalaa.kp
open Go.RowKit dk

theorem Fr.then {a w w' : World} {S : List Nat} (h : Fr [] a w) (h2 : Fr S w w') (hS : ∀ k ∈ S, a.heap.size ≤ k) : Fr [] a w' :=
  ⟨h2.os.trans h.os, h2.tape.trans h.tape, h2.output.trans h.output, Nat.le_trans h.size h2.size,
   fun k hk _ => (h2.block k (Nat.lt_of_lt_of_le hk h.size) (fun hm => by have := hS k hm; omega)).trans (h.block k hk (by simp))⟩
theorem StoreAt.own_le {w : World} {base s : Nat} {v : Value} {l : List Ent} (h : StoreAt w base s v l) : ∀ k ∈ s :: own v, base ≤ k := by
  intro k hk
  rcases List.mem_cons.1 hk with rfl | hk
  · exact h.le
  · unfold own at hk
    cases ho : v.ownBlock with
    | none => rw [ho] at hk; simp at hk
    | some g =>
      rw [ho] at hk
      simp at hk
      subst hk
      exact (h.row.lt _ ho).1

def aB : ByteArray := ⟨#[97]⟩
def oneB : ByteArray := ⟨#[111, 110, 101]⟩
def l1 : List Ent := [⟨aB, oneB, false⟩]
def l2 : List Ent := [⟨aB, ByteArray.empty, true⟩]
theorem a_ok : KeyOk aB := ⟨by decide, by decide, fun i hi => by
  have hi1 : i < 1 := hi
  match i, hi1 with
  | 0, _ => rfl⟩
theorem mono_nil (k : ByteArray) : Mono [] k := by intro a b x y _ hx; simp at hx
theorem mono_one (e : Ent) (k : ByteArray) : Mono [e] k := by
  intro a b x y hab hx hy hlt
  have hb : b = 0 := by have := (List.getElem?_eq_some_iff.1 hy).1; simp at this; exact this
  subst hb
  have ha : a = 0 := by omega
  subst ha
  simp at hx hy
  subst hx
  subst hy
  exact hlt
theorem f1 : mayPutE [] aB oneB = 0 := by kernel_rfl
theorem f2 : putL [] aB oneB = l1 := by unfold putL; rw [f1]; rfl
theorem f3a : has l1 aB = true := by kernel_rfl
theorem f3p : pos l1 aB = 0 := by kernel_rfl
theorem f3 : getE l1 aB = (oneB, 0) := by unfold getE; rw [f3a, f3p]; rfl
theorem f4 : delL l1 aB = l2 := by unfold delL; rw [f3, f3p]; rfl
theorem f5a : has l2 aB = true := by kernel_rfl
theorem f5p : pos l2 aB = 0 := by kernel_rfl
theorem f5 : getE l2 aB = (ByteArray.empty, 6) := by unfold getE; rw [f5a, f5p]; rfl

theorem oneL : (oneB.toList == [111, 110, 101]) = true := by
  have e : oneB.toList = [111, 110, 101] := by
    rw [ByteArray.toList, ByteArray.toList.loop, if_pos (by decide), ByteArray.toList.loop, if_pos (by decide), ByteArray.toList.loop, if_pos (by decide), ByteArray.toList.loop, if_neg (by decide)]
    rfl
  rw [e]
  rfl

set_option maxRecDepth 100000 in
set_option maxHeartbeats 4000000 in
theorem awake (w : World) : Calls Try.prog 34 #[] w fun e w' => e = .returned (.bool true) ∧ Fr [] w w' := by
  go_enter Try.func34, Try.ntmps34
  go_wp2_with fail
  refine (dsk_new w).mono ?_
  rintro e w1 ⟨rfl, _, hf1, hs1⟩
  go_wp2_with fail
  refine (stOpen w1 w.heap.size).mono ?_
  rintro e w2 ⟨rfl, hA2, hf2, hs2⟩
  have hS2 : StoreAt w2 w.heap.size w1.heap.size (.slice none 0 0) [] := ⟨hA2, World.ownsRow_nil _ _ _ _, by omega⟩
  have hF2 := hf1.trans hf2
  generalize w1.heap.size = s at *
  clear hA2 hf1 hf2 hs1 hs2
  go_wp2_with fail
  have C3 := stPut w2 w.heap.size s (.slice none 0 0) [] aB oneB hS2 a_ok (mono_nil _) (by decide) (by decide) (by decide)
  rw [f1, f2] at C3
  refine C3.mono ?_
  rintro e w3 ⟨v3, rfl, hS3, hf3⟩
  have hF3 := Fr.then hF2 hf3 hS2.own_le
  clear hS2 hF2 hf3 C3
  go_wp2_with fail
  have C4 := stGet w3 w.heap.size s v3 l1 aB hS3 a_ok (mono_one _ _) (by decide)
  rw [f3] at C4
  refine C4.mono ?_
  rintro e w4 ⟨rfl, hS4, hf4⟩
  have hF4 := Fr.then hF3 hf4 (fun k hk => by simp at hk; subst hk; exact hS3.le)
  clear hS3 hF3 hf4 C4
  go_wp2_with fail
  refine (stSeal w4 s).mono ?_
  rintro e w' ⟨rfl, rfl⟩
  go_wp2_with fail
  refine (stScrub w' s).mono ?_
  rintro e w'' ⟨rfl, rfl⟩
  go_wp2_with fail
  have C5 := stDelete w'' w.heap.size s v3 l1 aB hS4 a_ok (mono_one _ _) (by decide)
  rw [f3, f4] at C5
  refine C5.mono ?_
  rintro e w5 ⟨rfl, hS5, hf5⟩
  have hF5 := Fr.then hF4 hf5 hS4.own_le
  clear hS4 hF4 hf5 C5
  go_wp2_with fail
  have C6 := stGet w5 w.heap.size s v3 l2 aB hS5 a_ok (mono_one _ _) (by decide)
  rw [f5] at C6
  refine C6.mono ?_
  rintro e w6 ⟨rfl, hS6, hf6⟩
  have hone := oneL
  have hF6 := Fr.then hF5 hf6 (fun k hk => by simp at hk; subst hk; exact hS5.le)
  go_wp2_with fail
  go_ret
  exact ⟨rfl, hF6⟩
end Go.Proofs.Ytmeplfpnpogalaa.kp
