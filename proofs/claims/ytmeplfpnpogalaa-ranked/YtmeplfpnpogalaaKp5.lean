/-
  The shelf: Get, Stats, MayPut.
-/
import Derived.Test.YtmeplfpnpogalaaKp4
namespace Go.Proofs.Ytmeplfpnpogalaa.kp
open Go.RowKit dk

/-- what Get tells: the blob and the error -/
def getE (l : List Ent) (k : ByteArray) : ByteArray × Int :=
  if has l k then (match l[pos l k]? with | some e => if e.dead then (ByteArray.empty, 6) else (e.blob, 0) | none => (ByteArray.empty, 5)) else (ByteArray.empty, 5)
theorem has_some {l : List Ent} {k : ByteArray} (h : has l k = true) : ∃ e, l[pos l k]? = some e ∧ cmpB e.key k = 0 := by
  unfold has at h
  cases hl : l[pos l k]? with
  | none => rw [hl] at h; cases h
  | some e => rw [hl] at h; exact ⟨e, rfl, of_decide_eq_true h⟩

set_option maxHeartbeats 4000000 in
theorem shGet (w : World) (base b off : Nat) (v : Value) (l : List Ent) (k : ByteArray) (hc : w.cell? ⟨b, off, none⟩ = some v) (hr : w.ownsRow base 145 3 v l.length (entsV l)) (hk : KeyOk k) (hm : Mono l k) (hl : l.length < 1073741824) :
    Calls Try.prog 48 #[.pointer (some ⟨b, off, none⟩), .string k] w fun e w' => e = .returned (.tuple #[.string (getE l k).1, .int .i64 (getE l k).2]) ∧ Fr [] w w' := by
  have C1 := isKey k w hk
  have C2 := place w base b off v l k hc hr hm hl
  have hblt : b < w.heap.size := block_lt_of_cell hc
  obtain ⟨a, cap, rfl, hle, hmx, hcell⟩ := row3 hr
  clear hr hm hk
  cases hh : has l k with
  | false =>
    have HG : Hid (getE l k = (ByteArray.empty, 5)) := by show _ = _; unfold getE; rw [hh]; rfl
    rw [hh] at C2
    clear hh hcell
    go_enter Try.func48, Try.ntmps48
    go_wp2_with fail
    refine C1.mono ?_
    rintro e w' ⟨rfl, rfl⟩
    go_wp2_with fail
    refine C2.mono ?_
    rintro e w' ⟨rfl, hf⟩
    go_wp2_with fail
    go_ret2
    rw [HG.out]
    exact ⟨rfl, hf⟩
  | true =>
    obtain ⟨e, he, _⟩ := has_some hh
    obtain ⟨g, rfl, hbg, hgl, d0, d1, d2, _⟩ := hcell _ e he
    have HG : Hid (getE l k = if e.dead then (ByteArray.empty, 6) else (e.blob, 0)) := by show _ = _; unfold getE; rw [hh, he]; rfl
    have hpl : pos l k < l.length := (List.getElem?_eq_some_iff.1 he).1
    rw [hh] at C2
    clear hh hcell he
    obtain ⟨ek, eb, ed⟩ := e
    cases ed
    · go_enter Try.func48, Try.ntmps48
      go_wp2_with fail
      refine C1.mono ?_
      rintro e w' ⟨rfl, rfl⟩
      go_wp2_with fail
      refine C2.mono ?_
      rintro e w1 ⟨rfl, hf⟩
      rw [← hf.below.cell (p := ⟨g, pos l k * 3, none⟩) hgl] at d0
      rw [← hf.below.cell (p := ⟨g, pos l k * 3 + 1, none⟩) hgl] at d1
      rw [← hf.below.cell (p := ⟨g, pos l k * 3 + 2, none⟩) hgl] at d2
      rw [← hf.below.cell (p := ⟨b, off, none⟩) hblt] at hc
      go_wp2_with fail
      go_ret2
      rw [HG.out]
      exact ⟨rfl, hf⟩
    · go_enter Try.func48, Try.ntmps48
      go_wp2_with fail
      refine C1.mono ?_
      rintro e w' ⟨rfl, rfl⟩
      go_wp2_with fail
      refine C2.mono ?_
      rintro e w1 ⟨rfl, hf⟩
      rw [← hf.below.cell (p := ⟨g, pos l k * 3, none⟩) hgl] at d0
      rw [← hf.below.cell (p := ⟨g, pos l k * 3 + 1, none⟩) hgl] at d1
      rw [← hf.below.cell (p := ⟨g, pos l k * 3 + 2, none⟩) hgl] at d2
      rw [← hf.below.cell (p := ⟨b, off, none⟩) hblt] at hc
      go_wp2_with fail
      go_ret2
      rw [HG.out]
      exact ⟨rfl, hf⟩
end Go.Proofs.Ytmeplfpnpogalaa.kp
