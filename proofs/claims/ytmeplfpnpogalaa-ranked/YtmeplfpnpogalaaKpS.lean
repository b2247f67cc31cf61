/-
  heap.Push, heap.Pop.
-/
import Derived.Test.YtmeplfpnpogalaaKpR
namespace Go.Proofs.Ytmeplfpnpogalaa.kp
open Go.RowKit dk

theorem atE_append (l : List Ent) (c : Ent) (i : Nat) (hi : i < l.length) : atE (l ++ [c]) i = atE l i := by
  unfold atE
  rw [List.getD_eq_getElem?_getD, List.getD_eq_getElem?_getD, List.getElem?_append_left hi]
theorem mem_pown {p : Nat} {v : Value} : ∀ k ∈ own v, k ∈ p :: own v := fun _ h => List.mem_cons_of_mem _ h

set_option maxRecDepth 100000 in
set_option maxHeartbeats 8000000 in
theorem heapPush (w : World) (base p : Nat) (v : Value) (l : List Ent) (c : Ent) (h : HeapAt w base p v l) (hg : Goods l) (hc : Good c) (hH : Heap leG (atE l) l.length) (hs : l.length + 1 < 1073741824) :
    Calls Try.prog 80 #[hI p, entI c] w fun e w' => ∃ v' l', e = .returned (.tuple #[]) ∧ HeapAt w' base p v' l' ∧ l'.Perm (l ++ [c]) ∧ Heap leG (atE l') l'.length ∧ (∃ S, Fr S w w' ∧ ∀ k ∈ S, base ≤ k) := by
  have C1 := lfPush w base p v l c h.blk h.row h.small h.le
  have hm := mPush w p
  have HC : Hid (∀ v1 w1, At w1 p #[v1] 143 → w1.ownsRow base 145 3 v1 (l ++ [c]).length (entsV (l ++ [c])) → Calls Try.prog 114 #[hI p, .int .i64 l.length] w1 fun e w' => ∃ l', e = .returned (.tuple #[]) ∧ HeapAt w' base p v1 l' ∧ l'.Perm (l ++ [c]) ∧ Heap leG (atE l') (l ++ [c]).length ∧ Fr (own v1) w1 w') := by
    intro v1 w1 hA hr
    refine heapUp w1 base p v1 (l ++ [c]) l.length ⟨hA, hr, h.le, by simp; omega⟩ (fun e he => by rcases List.mem_append.1 he with h1 | h1; exact hg e h1; simp at h1; rw [h1]; exact hc) (by simp) ⟨fun d hd hdn hdi => ?_, fun d _ hd hdn hdp => ?_⟩
    · simp at hdn
      rw [atE_append l c _ (by omega), atE_append l c _ (by omega)]
      exact hH d hd (by omega)
    · simp at hdn
      omega
  unfold hI
  unfold hI at HC
  unfold entI at C1 ⊢
  go_enter Try.func80, Try.ntmps80
  go_wp2_with fail
  refine C1.mono ?_
  rintro e w1 ⟨v1, rfl, hA1, hr1, hf1⟩
  have c1 : w1.cell? ⟨p, 0, none⟩ = some v1 := hA1.cell 0
  have hm1 := mLen w1 p v1 c1
  obtain ⟨a1, cap1, rfl, _, _, _⟩ := row3 hr1
  have hlen : (l ++ [c]).length = l.length + 1 := by simp
  go_wp2_with fail
  refine (lfLen w1 a1 _ cap1).mono ?_
  rintro e w2 ⟨rfl, rfl⟩
  go_wp2_with fail
  refine (HC.out _ _ hA1 hr1).mono ?_
  rintro e w3 ⟨l3, rfl, hH3, hP3, hh3, hf3⟩
  go_wp2_with fail
  go_end0
  refine ⟨_, l3, rfl, hH3, hP3, by rw [hP3.length_eq]; exact hh3, ?_⟩
  exact (Touch.of hf1 (fun k hk => by rcases List.mem_cons.1 hk with rfl | hk; exact h.le; exact own_le h.row k hk)).trans (Touch.of hf3 (own_le hr1))

theorem split_last {l : List Ent} {n : Nat} (h : l.length = n + 1) : l = l.take n ++ [atE l n] := by
  have hn : n < l.length := by omega
  conv => lhs; rw [← List.take_append_drop n l, List.drop_eq_getElem_cons hn, List.drop_of_length_le (by omega)]
  have := atE_get hn
  rw [List.getElem?_eq_getElem hn] at this
  rw [Option.some.inj this]

set_option maxRecDepth 100000 in
set_option maxHeartbeats 8000000 in
theorem heapPop (w : World) (base p : Nat) (v : Value) (l : List Ent) (n : Nat) (h : HeapAt w base p v l) (hg : Goods l) (hH : Heap leG (atE l) l.length) (hn : l.length = n + 1) :
    Calls Try.prog 81 #[hI p] w fun e w' => ∃ v' l', e = .returned (entI (atE l 0)) ∧ HeapAt w' base p v' l' ∧ (l' ++ [atE l 0]).Perm l ∧ Heap leG (atE l') l'.length ∧ Fr (p :: own v) w w' := by
  have h0l : 0 < l.length := by omega
  have hnl : n < l.length := by omega
  have c0 : w.cell? ⟨p, 0, none⟩ = some v := h.blk.cell 0
  have hmLen := mLen w p v c0
  have hmSw := mSwap w p v c0
  have CS := lfSwap w base v l 0 n _ _ h.row (atE_get h0l) (atE_get hnl)
  have hsm := h.small
  generalize hl1 : (l.set 0 (atE l n)).set n (atE l 0) = l1 at *
  have hlen1 : l1.length = l.length := by rw [← hl1]; simp
  have hP1 : l1.Perm l := by rw [← hl1]; exact perm_swap (atE_get h0l) (atE_get hnl)
  have hat1 : atE l1 = swapF (atE l) 0 n := by rw [← hl1]; exact atE_swap h0l hnl
  have hn1 : atE l1 n = atE l 0 := by
    rw [hat1]
    unfold swapF
    by_cases e : n = 0
    · rw [if_pos e, e]
    · rw [if_neg e, if_pos rfl]
  have hD1 : DownAt leG (atE l1) n 0 := by
    refine ⟨fun d hd hdn hdp => ?_, fun d h00 _ _ _ => absurd h00 (by omega)⟩
    rw [hat1]
    unfold swapF
    rw [if_neg (by omega), if_neg (by omega), if_neg (by omega), if_neg (by omega)]
    exact hH d hd (by omega)
  have HC : Hid (∀ w1, At w1 p #[v] 143 → w1.ownsRow base 145 3 v l.length (entsV l1) → Calls Try.prog 115 #[hI p, .int .i64 0, .int .i64 n] w1 fun e w' => ∃ (u : Value) (l' : List Ent), e = .returned u ∧ HeapAt w' base p v l' ∧ l'.Perm l1 ∧ atE l' n = atE l1 n ∧ Heap leG (atE l') n ∧ Fr (own v) w1 w') := by
    intro w1 hA hr
    exact heapDown w1 base p v l1 n ⟨hA, by rw [hlen1]; exact hr, h.le, by omega⟩ (fun e he => hg e (hP1.mem_iff.1 he)) (by omega) hD1
  obtain ⟨a, cap, rfl, _, _, _⟩ := row3 h.row
  have CN := lfLen w a l.length cap
  have hB := h.blk
  have hrr := h.row
  have hhle := h.le
  rw [hn] at CN CS hmLen hmSw c0 HC hB hrr
  unfold hI
  unfold hI at HC
  have hq : ((n + 1 : Nat) : Int) = (n : Int) + 1 := by omega
  rw [hq] at CN
  go_enter Try.func81, Try.ntmps81
  go_wp2_with fail
  refine CN.mono ?_
  rintro e w' ⟨rfl, rfl⟩
  clear hmLen
  go_wp2_with fail
  refine CS.mono ?_
  rintro e w1 ⟨rfl, hr1, hf1⟩
  have hB1 := hf1.at hB (not_own hB (by decide) hrr)
  clear hmSw c0
  go_wp2_with fail
  refine (HC.out w1 hB1 hr1).mono ?_
  rintro e w2 ⟨u, l2, rfl, hH2, hP2, hn2, hh2, hf2⟩
  have hlen2 : l2.length = n + 1 := by rw [hP2.length_eq, hlen1, hn]
  have hsp := split_last hlen2
  have hlt : (l2.take n).length = n := by rw [List.length_take]; omega
  have hm2 := mPop w2 p
  have CP := lfPop w2 base p _ (l2.take n) (atE l2 n) hH2.blk (by rw [← hsp]; exact hH2.row) (by omega)
  rw [hn2, hn1] at CP hsp
  have hF := hf1.trans hf2
  go_wp2_with fail
  refine CP.mono ?_
  rintro e w3 ⟨v3, rfl, hA3, hr3, _, hf3⟩
  go_wp2_with fail
  go_ret
  refine ⟨v3, l2.take n, rfl, ⟨hA3, hr3, hhle, by omega⟩, ?_, ?_, ?_⟩
  · rw [← hsp]
    exact hP2.trans hP1
  · rw [hlt]
    intro d hd hdn
    have e1 : ∀ t, t < n → atE (l2.take n) t = atE l2 t := fun t ht => by
      unfold atE
      rw [List.getD_eq_getElem?_getD, List.getD_eq_getElem?_getD, List.getElem?_take, if_pos ht]
    rw [e1 _ (by omega), e1 _ hdn]
    exact hh2 d hd hdn
  · rw [hn]
    exact (hF.mono (fun k _ hk => List.mem_cons_of_mem _ hk)).trans (hf3.mono (fun k _ hk => by simp at hk; rw [hk]; simp))
end Go.Proofs.Ytmeplfpnpogalaa.kp
