/-
  Ranked: from the count on.
-/
import Derived.Test.YtmeplfpnpogalaaKpX
namespace Go.Proofs.Ytmeplfpnpogalaa.kp
open Go.RowKit dk

def leqK (a b : ByteArray) : Bool := Op.bytesLess a.toList b.toList || a.toList == b.toList
theorem leqK_run (a b : ByteArray) (W : World) : Sem.run Try.prog (binOp .leq 9 (.string a) (.string b)) W = .ok (.bool (leqK a b)) W := by
  simp [binOp, Op.stringOp, leqK]
def cnd (size : Nat) (was : ByteArray) (i : Nat) (k : Kn) : Bool := k.state == 1 && (decide (size < k.blob.size) || (k.blob.size == size && leqK (keyB i) was))
def cntF (size : Nat) (was : ByteArray) : Nat → List Kn → Nat
  | _, [] => 0
  | i, k :: o => (if cnd size was i k then 1 else 0) + cntF size was (i + 1) o
theorem cntF_append (size : Nat) (was : ByteArray) (a b : List Kn) (i : Nat) : cntF size was i (a ++ b) = cntF size was i a + cntF size was (i + a.length) b := by
  induction a generalizing i with
  | nil => simp [cntF]
  | cons k a ih =>
    simp only [List.cons_append, cntF, ih (i + 1), List.length_cons]
    rw [show i + 1 + a.length = i + (a.length + 1) by omega]
    omega
theorem cntF_take (size : Nat) (was : ByteArray) {o : List Kn} {i : Nat} {k : Kn} (hk : o[i]? = some k) : cntF size was 0 (o.take (i + 1)) = cntF size was 0 (o.take i) + if cnd size was i k then 1 else 0 := by
  have hi : i < o.length := (List.getElem?_eq_some_iff.1 hk).1
  rw [List.take_add_one, hk, cntF_append]
  simp [cntF, Nat.min_eq_left (Nat.le_of_lt hi)]
theorem cntF_le (size : Nat) (was : ByteArray) (o : List Kn) (i : Nat) : cntF size was i o ≤ o.length := by
  induction o generalizing i with
  | nil => simp [cntF]
  | cons k o ih =>
    have := ih (i + 1)
    simp only [cntF, List.length_cons]
    split <;> omega
noncomputable def rankedEnd22 : Code := (Try.f7.body.map (dropSeq 12)).getD .skip

set_option maxRecDepth 1000000 in
set_option maxHeartbeats 8000000 in
theorem rankedTail22 (W : World) (base hb x d lb : Nat) (v : Value) (o : List Kn) (hS : ShopAt W base hb x d lb v o) (after was : ByteArray) (m nL size capL : Nat) (aL : Option Addr) (hm2 : m < 1000) (hfin : cntF size was 0 o = nL ∨ nL = 0) (hnl : nL < 1000)
    (P : Ending → World → Prop) (hP : ∀ w', Touch base W w' → P (.returned (.bool true)) w') {u0 u1 u3 u4 u5 u6 u10 u11 u14 u15 u16 u17 u18 u19 u20 u21 u22 u23 u24 u25 u26 u27 u28 u29 u30 u31 u32 u33 u34 u35 u36 u37 u38 u39 u40 u41 u42 u43 u44 u45 u46 u47 u48 u49 u50 u51 u52 u53 u54 u55 u56 u57 u58 u59 u60 u61 u62 u63 u64 u65 u66 u67 u68 u69 u70 u71 u72 u73 u74 u75 u76 u77 u78 u79 u80 u81 u82 u83 u84 u85 u86 u87 u88 u89 u90 u91 u92 u93 u94 u95 u96 u97 u98 u99 u100 u101 u102 u103 u104 u105 u106 u107 u108 u109 u110 u111 u112 u113 u114 u115 u116 u117 u118 u119 u120 u121 u122 u123 u124 u125 u126 u127 u128 u129 u130 u131 u132 u133 u134 u135 u136 u137 u138 u139 u140 u141 u142 u143 u144 u145 u146 u147 u148 u149 u150 u151 u152 u153 u154 u155 u156 u157 u158 u159 u160 u161 u162 u163 u164 u165 u166 u167 u168 u169 u170 u171 u172 u173 u174 u175 u176 u177 u178 u179 u180 u181 u182 u183 u184 u185 : Value} :
    Code.wp Try.prog rankedEnd22 (bodyPost Try.prog Try.f7 P) ⟨#[u0, u1, .string after, u3, u4, u5, u6, .pointer (some ⟨hb, 0, none⟩), .int .i64 (m : Nat), .slice aL nL capL, u10, u11, .int .i64 (size : Nat), .string was, u14, u15, u16, u17, u18, u19, u20, u21, u22, u23, u24, u25, u26, u27, u28, u29, u30, u31, u32, u33, u34, u35, u36, u37, u38, u39, u40, u41, u42, u43, u44, u45, u46, u47, u48, u49, u50, u51, u52, u53, u54, u55, u56, u57, u58, u59, u60, u61, u62, u63, u64, u65, u66, u67, u68, u69, u70, u71, u72, u73, u74, u75, u76, u77, u78, u79, u80, u81, u82, u83, u84, u85, u86, u87, u88, u89, u90, u91, u92, u93, u94, u95, u96, u97, u98, u99, u100, u101, u102, u103, u104, u105, u106, u107, u108, u109, u110, u111, u112, u113, u114, u115, u116, u117, u118, u119, u120, u121, u122, u123, u124, u125, u126, u127, u128, u129, u130, u131, u132, u133, u134, u135, u136, u137, u138, u139, u140, u141, u142, u143, u144, u145, u146, u147, u148, u149, u150, u151, u152, u153, u154, u155, u156, u157, u158, u159, u160, u161, u162, u163, u164, u165, u166, u167, u168, u169, u170, u171, u172, u173, u174, u175, u176, u177, u178, u179, u180, u181, u182, u183, u184, u185], []⟩ W := by
  have hlen := hS.len
  have HP : Hid (∀ w', Touch base W w' → P (.returned (.bool true)) w') := hP
  clear hP
  conv => arg 2; whnf
  refine wp_seq_k fun K22 h22 => ?_
  have H22 : Hid _ := h22
  clear h22
  go_wp2_with fail
  refine H22.out _ _ ?_
  refine wp_seq_k fun K23 h23 => ?_
  have H23 : Hid _ := h23
  clear h23
  go_wp2_with fail
  go_loopw [17, 18] (fun n y wx => ∃ i : Nat, n = .int .i64 (cntF size was 0 (o.take i)) ∧ y = .int .i64 i ∧ i ≤ 40 ∧ Fr [] W wx) (fun _ y _ => 40 - (intOf y).toNat)
  case atStart => exact ⟨0, rfl, rfl, by decide, Fr.refl _ _⟩
  case round =>
    obtain ⟨i, rfl, rfl, hi, hw⟩ := hrel
    have hSr := hS.fr hw
    have g2 : wr.cell? ⟨hb, 2, none⟩ = some (.slice (some ⟨lb, 0, none⟩) 40 40) := hSr.shop.cell 2
    have hcl := cntF_le size was (o.take i) 0
    rw [List.length_take] at hcl
    by_cases hlt : i < 40
    · obtain ⟨k, hk⟩ : ∃ k, o[i]? = some k := ⟨o[i], List.getElem?_eq_getElem (by omega)⟩
      obtain ⟨d0, d1⟩ := knAt hSr.list hk
      have hkok := hSr.ok k (List.mem_of_getElem? hk)
      have hst := hkok.st
      have hks := hkok.size
      have HC : Hid (cntF size was 0 (o.take (i + 1)) = cntF size was 0 (o.take i) + if cnd size was i k then 1 else 0) := cntF_take size was hk
      have CK := keyOf wr (i : Int) (by omega) (by omega)
      rw [pick_small hlt] at CK
      have hq := fun W => leqK_run (keyB i) was W
      have hp0 : (0 : Int) ≤ (i : Int) := by omega
      have hp1 : (i : Int) < 40 := by omega
      generalize cntF size was 0 (o.take i) = q at *
      obtain ⟨ks, kb⟩ := k
      dsimp only at hst hks d0 d1
      by_cases hs1 : ks = 1
      · subst hs1
        by_cases hb1 : size < kb.size
        · have HC2 : Hid (cntF size was 0 (o.take (i + 1)) = q + 1) := by show _ = _; rw [HC.out]; simp [cnd, hb1]
          clear HC CK
          go_wp2_with fail
          exact ⟨⟨i + 1, by rw [HC2.out]; go_num, by go_num, hlt, hw⟩, by simp [intOf]; omega⟩
        · by_cases hb2 : kb.size = size
          · cases hle : leqK (keyB i) was with
            | true =>
              have HC2 : Hid (cntF size was 0 (o.take (i + 1)) = q + 1) := by show _ = _; rw [HC.out]; simp [cnd, hb2, hle]
              rw [hle] at hq
              clear HC
              go_wp2_with fail
              refine CK.mono ?_
              rintro e w1 ⟨rfl, hf1⟩
              go_wp2_with fail
              exact ⟨⟨i + 1, by rw [HC2.out]; go_num, by go_num, hlt, hw.trans hf1⟩, by simp [intOf]; omega⟩
            | false =>
              have HC2 : Hid (cntF size was 0 (o.take (i + 1)) = q) := by show _ = _; rw [HC.out]; simp [cnd, hb2, hle]
              rw [hle] at hq
              clear HC
              go_wp2_with fail
              refine CK.mono ?_
              rintro e w1 ⟨rfl, hf1⟩
              go_wp2_with fail
              exact ⟨⟨i + 1, by rw [HC2.out], by go_num, hlt, hw.trans hf1⟩, by simp [intOf]; omega⟩
          · have HC2 : Hid (cntF size was 0 (o.take (i + 1)) = q) := by show _ = _; rw [HC.out]; simp [cnd, hb1, hb2]
            have hb3 : ((kb.size : Int) == (size : Int)) = false := by simp; omega
            clear HC CK
            go_wp2_with fail
            exact ⟨⟨i + 1, by rw [HC2.out], by go_num, hlt, hw⟩, by simp [intOf]; omega⟩
      · have hs2 : (ks == 1) = false := by simpa using hs1
        have HC2 : Hid (cntF size was 0 (o.take (i + 1)) = q) := by show _ = _; rw [HC.out]; simp [cnd, hs2]
        clear HC CK
        go_wp2_with fail
        exact ⟨⟨i + 1, by rw [HC2.out], by go_num, hlt, hw⟩, by simp [intOf]; omega⟩
    · obtain rfl : i = 40 := by omega
      have hta : o.take 40 = o := by rw [← hlen, List.take_length]
      rw [hta] at hcl ⊢
      go_wp2_with fail
      refine H23.out _ _ ?_
      refine rankedTail28 wr base hb x d lb v o hSr after m nL (cntF size was 0 o) capL aL hm2 hfin hnl P ?_
      intro w' hT
      exact HP.out w' ((Touch.of hw (by simp)).trans hT)
end Go.Proofs.Ytmeplfpnpogalaa.kp
