/-
  The caller's side: pick, keyOf, blobOf.
-/
import Derived.Test.YtmeplfpnpogalaaKpB
import Derived.Laws.IdiomStrings
namespace Go.Proofs.Ytmeplfpnpogalaa.kp
open Go.RowKit dk

set_option maxHeartbeats 400000 in
theorem pickK (w : World) (c : Int) (n : Nat) (hn : 0 < n) (hm : n < 4611686018427387904) (h1 : -9223372036854775808 ≤ c) (h2 : c ≤ 9223372036854775807) :
    Calls Try.prog 17 #[.int .i64 c, .int .i64 n] w fun e w' => e = .returned (.int .i64 (pickI c n)) ∧ w' = w := by
  have hz : ((n : Int) == 0) = false := by simp; omega
  by_cases hc : c < 0
  · go_enter Try.func17, Try.ntmps17
    go_wp2
    go_ret
    refine ⟨ret_i64 ?_, rfl⟩
    have e1 : pickI c n = (-(c + 1)).toNat % n := by simp [pickI, hc]
    rw [e1]
    have e2 : (c + 1) = -(((-(c + 1)).toNat : Nat) : Int) := by omega
    generalize (-(c + 1)).toNat = m at e2 ⊢
    rw [e2, Int.neg_tmod, Int.neg_neg, Int.ofNat_tmod]
  · go_enter Try.func17, Try.ntmps17
    go_wp2
    go_ret
    refine ⟨ret_i64 ?_, rfl⟩
    have e1 : pickI c n = c.toNat % n := if_neg (by omega)
    rw [e1]
    obtain ⟨m, rfl⟩ := Int.eq_ofNat_of_zero_le (show 0 ≤ c by omega)
    simp
theorem pickI_lt (c : Int) (n : Nat) (hn : 0 < n) : pickI c n < n := by unfold pickI; split <;> exact Nat.mod_lt _ hn

/-- one of forty keys -/
def keyB (n : Nat) : ByteArray := ⟨#[107, (48 + n / 10).toUInt8, (48 + n % 10).toUInt8]⟩
set_option maxRecDepth 100000 in
set_option maxHeartbeats 4000000 in
theorem keyOf (w : World) (c : Int) (h1 : -9223372036854775808 ≤ c) (h2 : c ≤ 9223372036854775807) :
    Calls Try.prog 21 #[.int .i64 c] w fun e w' => e = .returned (.string (keyB (pickI c 40))) ∧ Fr [] w w' := by
  have C := pickK w c 40 (by decide) (by decide) h1 h2
  have hlt := pickI_lt c 40 (by decide)
  go_enter Try.func21, Try.ntmps21
  go_wp2_with fail
  refine C.mono ?_
  rintro e w' ⟨rfl, rfl⟩
  generalize hp : pickI c 40 = p at *
  have HP : Hid (pickI c 40 = p) := hp
  clear hp
  have hcv : ∀ W : World, W.heap[w'.heap.size]? = some (.cells #[.int .u8 (48 + (p : Int) / 10), .int .u8 (48 + (p : Int) % 10)] 5 (0, 0)) → Sem.run Try.prog (convert 107 9 (.slice (some ⟨w'.heap.size, 0, none⟩) 2 2)) W = .ok (.string ⟨#[(48 + p / 10).toUInt8, (48 + p % 10).toUInt8]⟩) W := fun W hW => by
    have h8 : ∀ n : Nat, n < 100 → ((n.toUInt8.toNat : Nat) : Int) = n := fun n hn => by
      rw [Nat.toUInt8, UInt8.toNat_ofNat', Nat.mod_eq_of_lt (by omega)]
    exact run_convert_bytes_back (P := Try.prog) W 107 9 5 ⟨w'.heap.size, 0, none⟩ 2 [(48 + p / 10).toUInt8, (48 + p % 10).toUInt8] Try.underlying107 Try.underlying5 Try.underlying9 (fun j hj => by
      rw [Addr.add_lit, Nat.zero_add, cell_of_row W _ _ _ _ _ hW]
      match j, hj with
      | 0, _ => show _ = some (Value.int .u8 (((48 + p / 10).toUInt8.toNat : Nat) : Int)); rw [h8 _ (by omega)]; simp
      | 1, _ => show _ = some (Value.int .u8 (((48 + p % 10).toUInt8.toNat : Nat) : Int)); rw [h8 _ (by omega)]; simp)
  have hcv1 := hcv _ (heap_alloc_new w' _)
  go_wp2_with fail
  go_ret
  rw [HP.out]
  refine ⟨?_, (Fr.refl _ _).alloc _⟩
  show Ending.returned (Value.string (⟨#[107]⟩ ++ ⟨#[48 + UInt8.ofNat (p / 10), 48 + UInt8.ofNat (p % 10)]⟩)) = _
  congr 2
  apply ByteArray.ext
  simp [keyB]

theorem keyCmpD : (List.range 40).all (fun i => (List.range 40).all fun j => decide (cmpB (keyB i) (keyB j) < 0) == decide (i < j) && decide (cmpB (keyB i) (keyB j) = 0) == decide (i = j)) = true := by kernel_rfl
theorem keyCmp {i j : Nat} (hi : i < 40) (hj : j < 40) : (cmpB (keyB i) (keyB j) < 0 ↔ i < j) ∧ (cmpB (keyB i) (keyB j) = 0 ↔ i = j) := by
  have h := List.all_eq_true.1 (List.all_eq_true.1 keyCmpD i (List.mem_range.2 hi)) j (List.mem_range.2 hj)
  simp only [Bool.and_eq_true, beq_iff_eq, decide_eq_decide] at h
  exact h
theorem keyOkD : (List.range 40).all (fun i => signB ((keyB i).data[0]!.toNat : Int) && signB ((keyB i).data[1]!.toNat : Int) && signB ((keyB i).data[2]!.toNat : Int)) = true := by kernel_rfl
theorem keyOk {i : Nat} (hi : i < 40) : KeyOk (keyB i) := by
  have h := List.all_eq_true.1 keyOkD i (List.mem_range.2 hi)
  simp only [Bool.and_eq_true] at h
  refine ⟨by show 1 ≤ 3; omega, by show 3 ≤ 8; omega, fun j hj => ?_⟩
  have hj3 : j < 3 := hj
  match j, hj3 with
  | 0, _ => exact h.1.1
  | 1, _ => exact h.1.2
  | 2, _ => exact h.2

theorem emptyL : ByteArray.toList ⟨#[]⟩ = [] := by
  rw [ByteArray.toList, ByteArray.toList.loop, if_neg (by decide)]
  rfl

set_option maxRecDepth 100000 in
set_option maxHeartbeats 4000000 in
theorem blobOf (w : World) (kind a b : Int) (S : ByteArray) (h1 : -9223372036854775808 ≤ b) (h2 : b ≤ 9223372036854775807) (hS : S.size ≤ 140737488355328) :
    Calls Try.prog 36 #[.agg #[.int .i64 kind, .int .i64 a, .int .i64 b, .string S]] w fun e w' => ∃ x : ByteArray, e = .returned (.string x) ∧ x.size ≤ 200 ∧ Fr [] w w' := by
  have C := pickK (w.alloc (.cells #[.int .i64 kind, .int .i64 a, .int .i64 b, .string S] 53)) b 201 (by decide) (by decide) h1 h2
  have hlt := pickI_lt b 201 (by decide)
  generalize pickI b 201 = n at *
  go_enter Try.func36, Try.ntmps36
  go_wp2_with fail
  refine C.mono ?_
  rintro e w1 ⟨rfl, rfl⟩
  have hA := at_alloc w #[.int .i64 kind, .int .i64 a, .int .i64 b, .string S] 53
  have hf : Fr [] w (w.alloc (.cells #[.int .i64 kind, .int .i64 a, .int .i64 b, .string S] 53)) := (Fr.refl _ _).alloc _
  generalize w.alloc (.cells #[.int .i64 kind, .int .i64 a, .int .i64 b, .string S] 53) = W at *
  have c3 : W.cell? ⟨w.heap.size, 3, none⟩ = some (.string S) := hA.cell 3
  go_wp2_with fail
  go_loopw [4] (fun x wr => ∃ s : ByteArray, x = .string s ∧ W = wr) (fun x _ => match x with | .string s => n - s.size | _ => 0)
  case atStart => exact ⟨ByteArray.empty, rfl, rfl⟩
  case round =>
    obtain ⟨s, rfl, rfl⟩ := hrel
    by_cases hs : s.size < n
    · cases hz : S.toList.isEmpty with
      | true =>
        go_wp2_with fail
        go_ret
        exact ⟨s, rfl, by omega, hf⟩
      | false =>
        have hpos : 0 < S.size := by
          rcases Nat.eq_zero_or_pos S.size with h0 | h0
          · have hs0 : S = ⟨#[]⟩ := by
              apply ByteArray.ext
              exact Array.eq_empty_of_size_eq_zero h0
            rw [hs0] at hz
            rw [emptyL] at hz
            cases hz
          · exact h0
        go_wp2_with fail
        refine ⟨⟨s ++ S, rfl, trivial⟩, ?_⟩
        show n - (s ++ S).size < n - s.size
        rw [ByteArray.size_append]
        omega
    · by_cases hs2 : n < s.size
      · go_wp2_with fail
        go_ret
        exact ⟨s.extract 0 n, rfl, by simp; omega, hf⟩
      · go_wp2_with fail
        go_ret
        exact ⟨s, rfl, by omega, hf⟩
end Go.Proofs.Ytmeplfpnpogalaa.kp
