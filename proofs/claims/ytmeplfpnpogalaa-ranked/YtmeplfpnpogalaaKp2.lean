/-
  isSign, isKey, BinarySearchFunc, place.
-/
import Derived.Test.YtmeplfpnpogalaaKp1
namespace Go.Proofs.Ytmeplfpnpogalaa.kp
open Go.RowKit dk

def signB (n : Int) : Bool := (decide (97 ≤ n) && decide (n ≤ 122)) || (decide (48 ≤ n) && decide (n ≤ 57))
theorem isSign (n : Int) (w : World) (h : signB n = true) :
    Calls Try.prog 116 #[.int .u8 n] w fun e w' => e = .returned (.bool true) ∧ w' = w := by
  by_cases h1 : 97 ≤ n
  · by_cases h2 : n ≤ 122
    · clear h
      go_enter Try.func116, Try.ntmps116
      go_wp2
      go_ret
      exact ⟨rfl, rfl⟩
    · exfalso
      simp [signB, h2] at h
      omega
  · have h3 : 48 ≤ n := by simp [signB, h1] at h; exact h.1
    have h4 : n ≤ 57 := by simp [signB, h1] at h; exact h.2
    clear h
    go_enter Try.func116, Try.ntmps116
    go_wp2
    go_ret
    exact ⟨rfl, rfl⟩

/-- what a key is -/
def KeyOk (k : ByteArray) : Prop := 1 ≤ k.size ∧ k.size ≤ 8 ∧ ∀ i (h : i < k.size), signB ((k[i]'h).toNat : Int) = true
set_option maxHeartbeats 1000000 in
theorem isKey (k : ByteArray) (w : World) (h : KeyOk k) :
    Calls Try.prog 82 #[.string k] w fun e w' => e = .returned (.bool true) ∧ w' = w := by
  obtain ⟨h1, h2, h3⟩ := h
  have H3 : Hid (∀ i (h : i < k.size), signB ((k[i]'h).toNat : Int) = true) := h3
  clear h3
  go_enter Try.func82, Try.ntmps82
  go_wp2_with fail
  go_loopw [14] (fun x wr => ∃ j : Nat, x = .int .i64 j ∧ j ≤ k.size ∧ w = wr) (fun x _ => k.size - (intOf x).toNat)
  case atStart => exact ⟨0, rfl, Nat.zero_le _, rfl⟩
  case round =>
    obtain ⟨j, rfl, hj, rfl⟩ := hrel
    by_cases hlt : j < k.size
    · go_wp2_with fail
      refine (isSign _ _ (H3.out j hlt)).mono ?_
      rintro e w' ⟨rfl, rfl⟩
      go_wp2_with fail
      exact ⟨⟨j + 1, by go_num, hlt, trivial⟩, by simp [intOf]; omega⟩
    · obtain rfl : j = k.size := by omega
      go_wp2_with fail
      go_ret
      exact ⟨rfl, rfl⟩

/-- how many stand ahead of a key -/
def pos (l : List Ent) (k : ByteArray) : Nat := l.countP fun e => decide (cmpB e.key k < 0)
/-- is it there? -/
def has (l : List Ent) (k : ByteArray) : Bool := match l[pos l k]? with | some e => decide (cmpB e.key k = 0) | none => false
/-- the keys rise: against any key, those below stand first -/
def Mono (l : List Ent) (k : ByteArray) : Prop := ∀ (a b : Nat) (x y : Ent), a ≤ b → l[a]? = some x → l[b]? = some y → cmpB y.key k < 0 → cmpB x.key k < 0

theorem pos_eq {l : List Ent} {k : ByteArray} : ∀ (i : Nat), i ≤ l.length → (∀ t x, t < i → l[t]? = some x → cmpB x.key k < 0) → (∀ t x, i ≤ t → l[t]? = some x → ¬ cmpB x.key k < 0) → pos l k = i := by
  induction l with
  | nil => intro i hi _ _; simp at hi; simp [pos, hi]
  | cons a l ih =>
    intro i hi h1 h2
    cases i with
    | zero =>
      unfold pos
      rw [List.countP_eq_zero]
      intro x hx
      obtain ⟨t, ht, rfl⟩ := List.getElem_of_mem hx
      have := h2 t _ (Nat.zero_le _) (List.getElem?_eq_getElem ht)
      simpa using this
    | succ i =>
      have ha := h1 0 a (by omega) rfl
      have := ih i (by simpa using hi) (fun t x ht hx => h1 (t + 1) x (by omega) (by simpa using hx)) (fun t x ht hx => h2 (t + 1) x (by omega) (by simpa using hx))
      unfold pos at this ⊢
      rw [List.countP_cons_of_pos (by simpa using ha), this]

set_option maxHeartbeats 4000000 in
theorem search (w : World) (base : Nat) (v : Value) (l : List Ent) (k : ByteArray) (hr : w.ownsRow base 145 3 v l.length (entsV l)) (hm : Mono l k) (hl : l.length < 1073741824) :
    Calls Try.prog 117 #[v, .string k, .func (.func 118) #[] #[]] w fun e w' => e = .returned (.tuple #[.int .i64 (pos l k), .bool (has l k)]) ∧ Fr [] w w' := by
  obtain ⟨a, cap, rfl, hle, hmx, hcell⟩ := row3 hr
  clear hr
  have HM : Hid (Mono l k) := hm
  clear hm
  go_enter Try.func117, Try.ntmps117
  go_wp2_with fail
  go_loopw [9, 10] (fun x y wr => ∃ i j : Nat, x = .int .i64 i ∧ y = .int .i64 j ∧ i ≤ j ∧ j ≤ l.length ∧ Fr [] w wr ∧ Hid (∀ t x, t < i → l[t]? = some x → cmpB x.key k < 0) ∧ Hid (∀ t x, j ≤ t → l[t]? = some x → 0 ≤ cmpB x.key k)) (fun x y _ => (intOf y).toNat - (intOf x).toNat)
  case atStart => exact ⟨0, l.length, rfl, rfl, Nat.zero_le _, Nat.le_refl _, Fr.refl _ _, (fun t x ht _ => absurd ht (Nat.not_lt_zero _)), (fun t x ht hx => by rw [List.getElem?_eq_none ht] at hx; cases hx)⟩
  case round =>
    obtain ⟨i, j, rfl, rfl, hij, hj, hw, H1, H2⟩ := hrel
    by_cases hlt : i < j
    · have hml : (i + j) / 2 < l.length := by omega
      obtain ⟨c, hc⟩ : ∃ c, l[(i + j) / 2]? = some c := ⟨l[(i + j) / 2], List.getElem?_eq_getElem hml⟩
      obtain ⟨g, rfl, hbg, hgl, d0, d1, d2, _⟩ := hcell _ c hc
      rw [← hw.below.cell (p := ⟨g, (i + j) / 2 * 3, none⟩) hgl] at d0
      rw [← hw.below.cell (p := ⟨g, (i + j) / 2 * 3 + 1, none⟩) hgl] at d1
      rw [← hw.below.cell (p := ⟨g, (i + j) / 2 * 3 + 2, none⟩) hgl] at d2
      have hgw : g < wr.heap.size := Nat.lt_of_lt_of_le hgl hw.size
      have HC : Hid (l[(i + j) / 2]? = some c) := hc
      clear hc hcell
      go_wp2_with fail
      refine (placeCmp c k _).mono ?_
      rintro e w' ⟨rfl, hf⟩
      by_cases hcx : cmpB c.key k < 0
      · have H1' : Hid (∀ t x, t < (i + j) / 2 + 1 → l[t]? = some x → cmpB x.key k < 0) := fun t x ht hx => HM.out t ((i + j) / 2) x c (by omega) hx HC.out hcx
        generalize cmpB c.key k = q at *
        go_wp2_with fail
        refine ⟨⟨(i + j) / 2 + 1, j, by go_num, rfl, by omega, hj, hw.trans hf, H1', H2⟩, ?_⟩
        simp [intOf]
        omega
      · have H2' : Hid (∀ t x, (i + j) / 2 ≤ t → l[t]? = some x → 0 ≤ cmpB x.key k) := fun t x ht hx => Int.not_lt.1 fun hn => hcx (HM.out ((i + j) / 2) t c x ht HC.out hx hn)
        generalize cmpB c.key k = q at *
        go_wp2_with fail
        refine ⟨⟨i, (i + j) / 2, rfl, by go_num, by omega, by omega, hw.trans hf, H1, H2'⟩, ?_⟩
        simp [intOf]
        omega
    · obtain rfl : i = j := by omega
      have HP : Hid (pos l k = i) := pos_eq i hj H1.out (fun t x h1 h2 => Int.not_lt.2 (H2.out t x h1 h2))
      by_cases hil : i < l.length
      · obtain ⟨c, hc⟩ : ∃ c, l[i]? = some c := ⟨l[i], List.getElem?_eq_getElem hil⟩
        obtain ⟨g, rfl, hbg, hgl, d0, d1, d2, _⟩ := hcell _ c hc
        rw [← hw.below.cell (p := ⟨g, i * 3, none⟩) hgl] at d0
        rw [← hw.below.cell (p := ⟨g, i * 3 + 1, none⟩) hgl] at d1
        rw [← hw.below.cell (p := ⟨g, i * 3 + 2, none⟩) hgl] at d2
        have hgw : g < wr.heap.size := Nat.lt_of_lt_of_le hgl hw.size
        have HH : Hid (has l k = decide (cmpB c.key k = 0)) := by show _ = _; unfold has; rw [HP.out, hc]
        clear hc hcell
        go_wp2_with fail
        refine (placeCmp c k _).mono ?_
        rintro e w' ⟨rfl, hf⟩
        generalize cmpB c.key k = q at *
        go_wp2_with fail
        go_ret2
        refine ⟨?_, hw.trans hf⟩
        rw [HP.out, HH.out]
        rfl
      · have HH : Hid (has l k = false) := by show _ = _; unfold has; rw [HP.out, List.getElem?_eq_none (by omega)]
        clear hcell
        go_wp2_with fail
        go_ret2
        refine ⟨?_, hw⟩
        rw [HP.out, HH.out]
        rfl

set_option maxHeartbeats 1000000 in
theorem place (w : World) (base b off : Nat) (v : Value) (l : List Ent) (k : ByteArray) (hc : w.cell? ⟨b, off, none⟩ = some v) (hr : w.ownsRow base 145 3 v l.length (entsV l)) (hm : Mono l k) (hl : l.length < 1073741824) :
    Calls Try.prog 83 #[.pointer (some ⟨b, off, none⟩), .string k] w fun e w' => e = .returned (.tuple #[.int .i64 (pos l k), .bool (has l k)]) ∧ Fr [] w w' := by
  have C1 := search w base v l k hr hm hl
  obtain ⟨a, cap, rfl, hle, hmx, hcell⟩ := row3 hr
  clear hr hm hcell
  go_enter Try.func83, Try.ntmps83
  go_wp2_with fail
  refine C1.mono ?_
  rintro e w' ⟨rfl, hf⟩
  go_wp2_with fail
  go_ret2
  exact ⟨rfl, hf⟩
end Go.Proofs.Ytmeplfpnpogalaa.kp
