/-
  A script, as the row's reading has it.
-/
import Derived.Test.YtmeplfpnpogalaaKpK
import Derived.WalkKit
import Derived.ProofKit
import Derived.OpenShut
import Derived.ShutString
import Derived.ChangeOld
import Derived.JoinedCond
import Derived.SizedLaws
import Derived.Deep.Slices
namespace Go.Proofs.Ytmeplfpnpogalaa.kp
open Go.ChangeShapes Go.WideShapes Go.ChangeAt Go.RowKit Go.Deep

theorem own0 : ownKnob Try.prog.godebug = none := by kernel_rfl
theorem laidOut : laidOutB Try.prog = true := by kernel_rfl
theorem cellsStep : Try.prog.cellsOf 53 = 4 := by kernel_rfl
theorem bytesStep : Try.prog.bytesOf 53 = 40 := by kernel_rfl
theorem cellsInt : Try.prog.cellsOf 3 = 1 := by kernel_rfl
theorem cellsStr : Try.prog.cellsOf 9 = 1 := by kernel_rfl

theorem weightsAll_mem {H : Type} {P : Program} {e : TypeId} {d : DataW H} {n : Nat} (hn : n ∈ d.weights P e) : ∀ {l : List (DataW H)}, d ∈ l → n ∈ DataW.weightsAll P e l
  | x :: r, h => by
    simp only [DataW.weightsAll, List.mem_append]
    rcases List.mem_cons.1 h with rfl | h
    · exact .inl hn
    · exact .inr (weightsAll_mem hn h)
  | [], h => by cases h

set_option maxRecDepth 100000 in
/-- a step's cells: three numbers and a string -/
theorem step_open {H : Type} {enc : TypeId × Value → H} {W : World} {sp : Nat → Bool} {held : Bool} {fuel : Nat} {cs : List Value} {x : DataW H × List MemPlace} (h : DataW.trod enc Try.prog W 0 sp held fuel 53 cs = some x) :
    ∃ (kind a b : Int) (s : ByteArray), cs = [.int .i64 kind, .int .i64 a, .int .i64 b, .string s] ∧ (Lit.int .i64 a).wf = true ∧ (Lit.int .i64 b).wf = true ∧ s.data.toList.length ∈ x.1.weights Try.prog 53 := by
  obtain ⟨xs, n, _, hxs, hl, hlen, hf⟩ := DataW.trod_struct Try.underlying53 h
  rw [cellsStep] at hl
  match cs, hl with
  | [c0, c1, c2, c3], _ =>
    have get : ∀ j, j < 4 → ∃ y, xs[j]? = some y := fun j hj => ⟨xs[j]'(by rw [hlen]; exact hj), List.getElem?_eq_getElem _⟩
    obtain ⟨y0, e0⟩ := get 0 (by decide)
    obtain ⟨y1, e1⟩ := get 1 (by decide)
    obtain ⟨y2, e2⟩ := get 2 (by decide)
    obtain ⟨y3, e3⟩ := get 3 (by decide)
    have f0 := hf 0 _ rfl
    have f1 := hf 1 _ rfl
    have f2 := hf 2 _ rfl
    have f3 := hf 3 _ rfl
    rw [e0] at f0
    rw [e1] at f1
    rw [e2] at f2
    rw [e3] at f3
    obtain ⟨k0, g0, _, _⟩ := DataW.trod_int Try.underlying3 f0
    obtain ⟨k1, g1, _, w1⟩ := DataW.trod_int Try.underlying3 f1
    obtain ⟨k2, g2, _, w2⟩ := DataW.trod_int Try.underlying3 f2
    obtain ⟨s3, g3, g3', _⟩ := DataW.trod_string Try.underlying9 f3
    simp [cellsInt] at g0 g1 g2
    simp [cellsStr] at g3
    subst g0 g1 g2 g3
    refine ⟨k0, k1, k2, s3, rfl, w1, w2, ?_⟩
    rw [hxs]
    simp only [DataW.weights, Try.underlying53]
    refine DataW.weights_mem_each (j := 3) (t := 9) (d := .lit (.string s3.data.toList)) rfl ?_ _ (by simp [DataW.weights])
    rw [List.getElem?_map, e3, g3']
    rfl

theorem addr_add (b off k : Nat) : (⟨b, off, none⟩ : Addr).add k = ⟨b, off + k, none⟩ := by
  unfold Addr.add; split <;> simp_all

set_option maxRecDepth 100000 in
/-- the script, as the walk wants it -/
theorem script_open {H : Type} {enc : TypeId × Value → H} {W : World} {sp : Nat → Bool} {held : Bool} {a0 : Option Addr} {len0 cap0 : Nat} {d : DataW H} {p : List MemPlace} {fuel : Nat}
    (hf : DataW.trod enc Try.prog W 0 sp held fuel 48 [.slice a0 len0 cap0] = some (d, p)) (hz : ∀ n ∈ d.weights Try.prog 48, n ≤ reachBytes) : StepRow W a0 len0 ∧ len0 ≤ 140737488355328 := by
  have hrb : reachBytes < 140737488355328 := reachBytes_lt
  rcases open_slice Try.underlying48 hf with ⟨hcs, hx⟩ | ⟨a, len, cap, m, n, D, Pl, hcs, hb, hl, hm, hmm, hx, hel⟩
  · simp at hcs
    obtain ⟨rfl, rfl, rfl⟩ := hcs
    exact ⟨fun i hi => by omega, by omega⟩
  · simp at hcs
    obtain ⟨rfl, rfl, rfl⟩ := hcs
    have hle : len0 ≤ m := by rw [hmm]; split <;> omega
    injection hx with hd _
    rw [hd] at hz
    simp only [DataW.weights, Try.underlying48] at hz
    refine ⟨fun i hi => ?_, ?_⟩
    · obtain ⟨cs', h1, h2⟩ := hel i (by omega)
      rw [cellsStep] at h1
      obtain ⟨kind, x, y, s, rfl, w1, w2, hmem⟩ := step_open h2
      obtain ⟨_, _, hc⟩ := World.cells?_some h1
      obtain ⟨b, off, spot⟩ := a
      have c0 := hc 0 (by decide)
      have hspot : spot = none := by
        obtain ⟨cs0, h3, h4⟩ := hel 0 (by omega)
        rw [cellsStep] at h3
        obtain ⟨kind0, x0, y0, s0, rfl, _, _, _⟩ := step_open h4
        obtain ⟨_, _, hc0⟩ := World.cells?_some h3
        have c00 := hc0 0 (by decide)
        simpa [Addr.add] using World.cell?_spot c00
      subst hspot
      simp only [addr_add] at hc
      have e0 := hc 0 (by decide)
      have e1 := hc 1 (by decide)
      have e2 := hc 2 (by decide)
      have e3 := hc 3 (by decide)
      have b1 := bounds_i64 w1
      have b2 := bounds_i64 w2
      have hs : s.data.toList.length ≤ reachBytes := hz _ (List.mem_cons_of_mem _ (List.mem_append_left _ (weightsAll_mem hmem (List.mem_map.2 ⟨i, List.mem_range.2 hi, rfl⟩))))
      have hs2 : s.size = s.data.toList.length := by rw [Array.length_toList]; rfl
      refine ⟨b, off, rfl, World.block_lt_of_cell? _ _ e0, kind, x, y, s, e0, e1, e2, e3, ⟨by omega, by omega⟩, ⟨by omega, by omega⟩, by omega⟩
    · have h1 := hz _ (List.mem_cons_self ..)
      rw [bytesStep] at h1
      simp at h1
      omega
end Go.Proofs.Ytmeplfpnpogalaa.kp
