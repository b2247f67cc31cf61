/-
  The drawer: keepInts, looks.
-/
import Derived.Test.YtjgnheelcbkahaaDkM
import Derived.Test.YtjgnheelcbkahaaDkN
namespace Go.Proofs.Ytjgnheelcbkahaa.dk
open Go.RowKit

/-- the struct Drawer, without words and answers -/
def drwCells (n : Int) (vI vN : Value) : Array Value := #[.int .i64 n, .slice none 0 0, .slice none 0 0, vI, .slice none 0 0, .slice none 0 0, vN]

theorem drw_cells {w : World} {b : Nat} {n : Int} {vI vN : Value} (h : At w b (drwCells n vI vN) 32) :
    w.cell? ⟨b, 0, none⟩ = some (.int .i64 n) ∧ w.cell? ⟨b, 1, none⟩ = some (.slice none 0 0) ∧ w.cell? ⟨b, 2, none⟩ = some (.slice none 0 0) ∧ w.cell? ⟨b, 3, none⟩ = some vI ∧ w.cell? ⟨b, 4, none⟩ = some (.slice none 0 0) ∧ w.cell? ⟨b, 5, none⟩ = some (.slice none 0 0) ∧ w.cell? ⟨b, 6, none⟩ = some vN :=
  ⟨h.cell 0, h.cell 1, h.cell 2, h.cell 3, h.cell 4, h.cell 5, h.cell 6⟩

/-- a list that came out: where it lies, its length, its mark -/
structure Grp where
  v : Value
  n : Nat
  m : Int

structure DrwAt (w : World) (base b : Nat) (n : Int) (vI vN : Value) (G : List Grp) : Prop where
  blk : At w b (drwCells n vI vN) 32
  ints : w.ownsRow base 30 1 vI G.length (G.map Grp.v)
  marks : w.ownsRow base 3 1 vN G.length (G.map fun g => .int .i64 g.m)
  each : ∀ g ∈ G, Uni w base 3 g.v g.n g.m

/-- what a row of single cells looks like -/
theorem rowG {w : World} {base : Nat} {e : TypeId} {v : Value} {n : Nat} {xs : List Value} (h : w.ownsRow base e 1 v n xs) :
    ∃ a cap, v = .slice a n cap ∧ n ≤ cap ∧ cap ≤ maxLen ∧ (∀ k u, xs[k]? = some u → ∃ g, a = some ⟨g, 0, none⟩ ∧ base ≤ g ∧ g < w.heap.size ∧ w.cell? ⟨g, k, none⟩ = some u ∧ (∀ i, w.frozen? ⟨g, i, none⟩ = false)) := by
  rcases h.2 with ⟨rfl, rfl⟩ | ⟨g, cap, cur, rfl, hb, hg, hle, hm, hs, ht⟩
  · have hx : xs = [] := List.eq_nil_of_length_eq_zero (by simpa using h.1)
    subst hx
    exact ⟨none, 0, rfl, Nat.le_refl _, by unfold maxLen; omega, fun k c hc => by simp at hc⟩
  · refine ⟨some ⟨g, 0, none⟩, cap, rfl, hle, hm, fun k c hc => ⟨g, rfl, hb, (Array.getElem?_eq_some_iff.1 hg).1, ?_, fun i => frozen_of_row w g i cur e hg⟩⟩
    have hk : k < xs.length := (List.getElem?_eq_some_iff.1 hc).1
    rw [h.cellAt k (by have := h.1; omega)]
    exact hc

set_option maxHeartbeats 4000000 in
theorem looks_any (w : World) (base b : Nat) (n : Int) (vI vN : Value) (G : List Grp) (hD : DrwAt w base b n vI vN G) (hG : G.length < 1073741824) (hn : ∀ g ∈ G, g.n < 1073741824) :
    Calls Try.prog 8 #[.pointer (some ⟨b, 0, none⟩)] w fun e w' => e = .returned (.bool true) ∧ Fr [] w w' := by
  have hbl := hD.blk.lt
  obtain ⟨c0, c1, c2, c3, c4, c5, c6⟩ := drw_cells hD.blk
  obtain ⟨aI, capI, rfl, hleI, hmI, hcI⟩ := rowG hD.ints
  obtain ⟨aN, capN, rfl, hleN, hmN, hcN⟩ := rowG hD.marks
  have HC : Hid (w.cell? ⟨b, 3, none⟩ = some (.slice aI G.length capI) ∧ w.cell? ⟨b, 6, none⟩ = some (.slice aN G.length capN)) := ⟨c3, c6⟩
  have HN : Hid (∀ g ∈ G, g.n < 1073741824) := hn
  have HE : Hid (∀ g ∈ G, Uni w base 3 g.v g.n g.m) := hD.each
  have HI : Hid (∀ k u, (G.map Grp.v)[k]? = some u → ∃ g, aI = some ⟨g, 0, none⟩ ∧ base ≤ g ∧ g < w.heap.size ∧ w.cell? ⟨g, k, none⟩ = some u ∧ (∀ i, w.frozen? ⟨g, i, none⟩ = false)) := hcI
  have HM : Hid (∀ k u, (G.map fun g => Value.int .i64 g.m)[k]? = some u → ∃ g, aN = some ⟨g, 0, none⟩ ∧ base ≤ g ∧ g < w.heap.size ∧ w.cell? ⟨g, k, none⟩ = some u ∧ (∀ i, w.frozen? ⟨g, i, none⟩ = false)) := hcN
  clear hD hn hcI hcN
  go_enter Try.func8, Try.ntmps8
  go_wp2_with fail
  go_loopw [3] (fun k wr => k = .int .i64 0 ∧ w = wr) (fun _ _ => 0)
  case atStart => exact ⟨rfl, rfl⟩
  case round =>
    obtain ⟨rfl, hww⟩ := hrel
    subst hww
    go_wp2_with fail
    go_loopw [5] (fun k wr => k = .int .i64 0 ∧ w = wr) (fun _ _ => 0)
    case atStart => exact ⟨rfl, rfl⟩
    case round =>
      obtain ⟨rfl, hww⟩ := hrel
      subst hww
      go_wp2_with fail
      clear c0 c1 c2 c3 c4 c5 c6
      go_loopw [7] (fun x wr => ∃ k : Nat, x = .int .i64 k ∧ k ≤ G.length ∧ Fr [] w wr) (fun x _ => G.length - (intOf x).toNat)
      case atStart => exact ⟨0, rfl, Nat.zero_le _, Fr.refl _ _⟩
      case round =>
        obtain ⟨k, rfl, hk, hw⟩ := hrel
        obtain ⟨C3, C6⟩ := HC.out
        have c3 : wr.cell? ⟨b, 3, none⟩ = _ := (hw.below.cell (p := ⟨b, 3, none⟩) hbl).trans C3
        clear C3 C6
        by_cases hlt : k < G.length
        · obtain ⟨gr, hgr⟩ : ∃ gr, G[k]? = some gr := ⟨G[k], List.getElem?_eq_getElem hlt⟩
          obtain ⟨gI, rfl, hbI, hlI, dI, _⟩ := HI.out k gr.v (by rw [List.getElem?_map, hgr]; rfl)
          obtain ⟨gN, rfl, hbN, hlN, dN, _⟩ := HM.out k (.int .i64 gr.m) (by rw [List.getElem?_map, hgr]; rfl)
          have hmem : gr ∈ G := List.mem_of_getElem? hgr
          obtain ⟨aU, capU, eU, hleU, hmU, hcU⟩ := rowG (HE.out gr hmem)
          have hgn := HN.out gr hmem
          obtain ⟨gv, gn, gm⟩ := gr
          simp only at eU hleU hcU hgn dI dN
          subst eU
          have HDI : Hid (w.cell? ⟨gI, k, none⟩ = some (.slice aU gn capU)) := dI
          have HDN : Hid (w.cell? ⟨gN, k, none⟩ = some (.int .i64 gm)) := dN
          have HCU : Hid (∀ j u, (List.replicate gn (Value.int .i64 gm))[j]? = some u → ∃ g, aU = some ⟨g, 0, none⟩ ∧ base ≤ g ∧ g < w.heap.size ∧ w.cell? ⟨g, j, none⟩ = some u ∧ (∀ i, w.frozen? ⟨g, i, none⟩ = false)) := hcU
          have dI2 : wr.cell? ⟨gI, k, none⟩ = _ := (hw.below.cell (p := ⟨gI, k, none⟩) hlI).trans HDI.out
          have hdec : decide ((k : Int) < (G.length : Int)) = true := by simp; omega
          clear hgr hcU dI dN
          go_wp2_with fail
          go_loopw [8] (fun x wx => ∃ j : Nat, x = .int .i64 j ∧ j ≤ gn ∧ Fr [] w wx) (fun x _ => gn - (intOf x).toNat)
          case atStart => exact ⟨0, rfl, Nat.zero_le _, hw⟩
          case round =>
            obtain ⟨j, rfl, hj, hw2⟩ := hrel
            obtain ⟨C3, C6⟩ := HC.out
            have e3 : wr.cell? ⟨b, 3, none⟩ = _ := (hw2.below.cell (p := ⟨b, 3, none⟩) hbl).trans C3
            have e6 : wr.cell? ⟨b, 6, none⟩ = _ := (hw2.below.cell (p := ⟨b, 6, none⟩) hbl).trans C6
            have eI : wr.cell? ⟨gI, k, none⟩ = _ := (hw2.below.cell (p := ⟨gI, k, none⟩) hlI).trans HDI.out
            have eN : wr.cell? ⟨gN, k, none⟩ = _ := (hw2.below.cell (p := ⟨gN, k, none⟩) hlN).trans HDN.out
            clear C3 C6 c3 dI2 hw
            have hk1 : (k : Int) < (G.length : Int) := by omega
            have hk0 : (0 : Int) ≤ (k : Int) := by omega
            by_cases hjl : j < gn
            · obtain ⟨gU, rfl, hbU, hlU, dU, _⟩ := HCU.out j (.int .i64 gm) (by rw [List.getElem?_replicate, if_pos hjl])
              have eU : wr.cell? ⟨gU, j, none⟩ = _ := (hw2.below.cell (p := ⟨gU, j, none⟩) hlU).trans dU
              have hj1 : (j : Int) < (gn : Int) := by omega
              have hj0 : (0 : Int) ≤ (j : Int) := by omega
              clear dU
              go_wp2_with fail
              go_quiet (fail)
              go_wp2_with fail
              exact ⟨⟨j + 1, by go_num, hjl, hw2.drewN _⟩, by simp [intOf]; omega⟩
            · obtain rfl : j = gn := by omega
              go_wp2_with fail
              exact ⟨⟨k + 1, by go_num, hlt, hw2⟩, by simp [intOf]; omega⟩
        · obtain rfl : k = G.length := by omega
          go_wp2_with fail
          go_ret
          exact ⟨rfl, hw⟩

end Go.Proofs.Ytjgnheelcbkahaa.dk
