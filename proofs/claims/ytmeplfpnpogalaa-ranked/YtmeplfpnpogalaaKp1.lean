/-
  KEPT AND RANKED: entries in memory; the small functions of the shelf; Compare, Clone.
-/
import Derived.Test.YtmeplfpnpogalaaMu
import Derived.Test.YtmeplfpnpogalaaDkI
import Derived.Lib.Bytealg
import Derived.Lib.Walk
namespace Go.Proofs.Ytmeplfpnpogalaa.kp
open Go.RowKit dk

/-- an entry of the shelf -/
structure Ent where
  key : ByteArray
  blob : ByteArray
  dead : Bool
def Ent.vs (c : Ent) : List Value := [.string c.key, .string c.blob, .bool c.dead]
def entsV (l : List Ent) : List Value := l.flatMap Ent.vs

theorem entsV_length (l : List Ent) : (entsV l).length = l.length * 3 := by
  induction l with
  | nil => rfl
  | cons c l ih => simp only [entsV, List.flatMap_cons, List.length_append, List.length_cons] at ih ⊢; simp only [Ent.vs, List.length_cons, List.length_nil]; omega
theorem entsV_get (l : List Ent) (k j : Nat) (hj : j < 3) : (entsV l)[k * 3 + j]? = (l[k]?).bind fun c => c.vs[j]? := by
  induction l generalizing k with
  | nil => simp [entsV]
  | cons c l ih =>
    have hc : c.vs.length = 3 := rfl
    show (c.vs ++ entsV l)[k * 3 + j]? = _
    cases k with
    | zero => rw [List.getElem?_append_left (by omega)]; simp
    | succ k =>
      rw [List.getElem?_append_right (by omega), hc, show (k + 1) * 3 + j - 3 = k * 3 + j by omega, ih k]
      simp
theorem entsV_append (a b : List Ent) : entsV (a ++ b) = entsV a ++ entsV b := by simp [entsV]
theorem entsV_one (c : Ent) : entsV [c] = c.vs := by simp [entsV]

/-- the cells of a row of entries -/
theorem row3 {w : World} {base : Nat} {e : TypeId} {v : Value} {l : List Ent} (h : w.ownsRow base e 3 v l.length (entsV l)) :
    ∃ a cap, v = .slice a l.length cap ∧ l.length ≤ cap ∧ cap ≤ maxLen ∧ (∀ k c, l[k]? = some c → ∃ g, a = some ⟨g, 0, none⟩ ∧ base ≤ g ∧ g < w.heap.size ∧
      w.cell? ⟨g, k * 3, none⟩ = some (.string c.key) ∧ w.cell? ⟨g, k * 3 + 1, none⟩ = some (.string c.blob) ∧ w.cell? ⟨g, k * 3 + 2, none⟩ = some (.bool c.dead) ∧ (∀ i, w.frozen? ⟨g, i, none⟩ = false)) := by
  rcases h.2 with ⟨rfl, hn⟩ | ⟨g, cap, cur, rfl, hb, hg, hle, hm, hs, ht⟩
  · have : l = [] := List.eq_nil_of_length_eq_zero hn
    subst this
    exact ⟨none, 0, rfl, Nat.le_refl _, by unfold maxLen; omega, fun k c hc => by simp at hc⟩
  · refine ⟨some ⟨g, 0, none⟩, cap, rfl, hle, hm, fun k c hc => ?_⟩
    have hk : k < l.length := (List.getElem?_eq_some_iff.1 hc).1
    have key : ∀ j, j < 3 → w.cell? ⟨g, k * 3 + j, none⟩ = c.vs[j]? := fun j hj => by
      rw [h.cellAt (k * 3 + j) (by omega), entsV_get l k j hj, hc]; rfl
    exact ⟨g, rfl, hb, (Array.getElem?_eq_some_iff.1 hg).1, key 0 (by decide), key 1 (by decide), key 2 (by decide), fun i => frozen_of_row w g i cur e hg⟩

def cmpB (a b : ByteArray) : Int := Lib.compareBytes a.data.toList b.data.toList

set_option maxRecDepth 100000 in
theorem compareString (a b : ByteArray) (w : World) :
    Calls Try.prog 135 #[.string a, .string b] w fun e w' => e = .returned (.int .i64 (cmpB a b)) ∧ w' = w := by
  go_enter Try.func135, Try.ntmps135
  go_wp2
  rw [run_callFunc_extern Try.func137 (by kernel_rfl) (by kernel_rfl) (by kernel_rfl) (e := Extern.BytealgCompare.compare) (by kernel_rfl), Lib.run_compareString]
  simp only [Result.andThen]
  rw [Oper.upon_value]
  go_wp2
  go_ret
  exact ⟨rfl, rfl⟩
theorem compare (a b : ByteArray) (w : World) :
    Calls Try.prog 119 #[.string a, .string b] w fun e w' => e = .returned (.int .i64 (cmpB a b)) ∧ w' = w := by
  go_enter Try.func119, Try.ntmps119
  go_wp2_with fail
  refine (compareString a b _).mono ?_
  rintro e w' ⟨rfl, rfl⟩
  go_wp2
  go_ret
  exact ⟨rfl, rfl⟩
/-- what place compares by -/
theorem placeCmp (c : Ent) (k : ByteArray) (w : World) :
    Calls Try.prog 118 #[.agg #[.string c.key, .string c.blob, .bool c.dead], .string k] w fun e w' => e = .returned (.int .i64 (cmpB c.key k)) ∧ Fr [] w w' := by
  go_enter Try.func118, Try.ntmps118
  go_wp2_with fail
  refine (compare c.key k _).mono ?_
  rintro e w' ⟨rfl, rfl⟩
  go_wp2
  go_ret
  exact ⟨rfl, (Fr.refl _ _).alloc _⟩
end Go.Proofs.Ytmeplfpnpogalaa.kp
