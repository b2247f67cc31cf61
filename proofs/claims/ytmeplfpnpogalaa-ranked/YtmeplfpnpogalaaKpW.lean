/-
  Ranked: its last loop.
-/
import Derived.Test.YtmeplfpnpogalaaKpV
namespace Go.Proofs.Ytmeplfpnpogalaa.kp
open Go.RowKit dk

theorem leq_false {a b : ByteArray} (h : cmpB a b < 0) : Op.bytesLess b.toList a.toList = false ∧ (b.toList == a.toList) = false := by
  have h1 : kl b a = false := by
    rw [kl_cmp]
    simp only [decide_eq_false_iff_not]
    intro h2
    have h3 := cmpB_trans h h2
    have e : ∀ l : List UInt8, Lib.compareBytes l l = 0 := by
      intro l
      induction l with
      | nil => rfl
      | cons x l ih => rw [Lib.compareBytes, if_neg (by simp), if_neg (by simp)]; exact ih
    unfold cmpB at h3
    rw [e] at h3
    omega
  refine ⟨h1, ?_⟩
  rw [beq_eq_false_iff_ne]
  intro e
  rw [toListD, toListD] at e
  have e2 : ∀ l : List UInt8, Lib.compareBytes l l = 0 := by
    intro l
    induction l with
    | nil => rfl
    | cons x l ih => rw [Lib.compareBytes, if_neg (by simp), if_neg (by simp)]; exact ih
  unfold cmpB at h
  rw [e, e2] at h
  omega
theorem leq_run {a b : ByteArray} (h : cmpB a b < 0) (W : World) : Sem.run Try.prog (binOp .leq 9 (.string b) (.string a)) W = .ok (.bool false) W := by
  obtain ⟨f1, f2⟩ := leq_false h
  simp [binOp, Op.stringOp, f1, f2]
noncomputable def rankedEnd3 : Code := (Try.f7.body.map (dropSeq 16)).getD .skip

set_option maxRecDepth 1000000 in
set_option maxHeartbeats 8000000 in
theorem rankedTail3 (W : World) (ks : List ByteArray) (after : ByteArray) (m nL more capL capK bK : Nat) (aL aK : Option Addr) (hr : W.ownsRow bK 9 1 (.slice aK ks.length capK) ks.length (strsV ks)) (hrise : (after :: ks).Pairwise fun a b => cmpB a b < 0) (hm : ks.length ≤ m) (hm2 : m < 1000) (hfin : more = nL ∨ nL = 0) (hnl : nL < 1000)
    (P : Ending → World → Prop) (hP : ∀ w', Fr [] W w' → P (.returned (.bool true)) w') {u0 u1 u2 u3 u4 u5 u6 u7 u10 u11 u12 u13 u14 u15 u16 u18 u21 u22 u23 u24 u25 u26 u27 u28 u29 u30 u31 u32 u33 u34 u35 u36 u37 u38 u39 u40 u41 u42 u43 u44 u45 u46 u47 u48 u49 u50 u51 u52 u53 u54 u55 u56 u57 u58 u59 u60 u61 u62 u63 u64 u65 u66 u67 u68 u69 u70 u71 u72 u73 u74 u75 u76 u77 u78 u79 u80 u81 u82 u83 u84 u85 u86 u87 u88 u89 u90 u91 u92 u93 u94 u95 u96 u97 u98 u99 u100 u101 u102 u103 u104 u105 u106 u107 u108 u109 u110 u111 u112 u113 u114 u115 u116 u117 u118 u119 u120 u121 u122 u123 u124 u125 u126 u127 u128 u129 u130 u131 u132 u133 u134 u135 u136 u137 u138 u139 u140 u141 u142 u143 u144 u145 u146 u147 u148 u149 u150 u151 u152 u153 u154 u155 u156 u157 u158 u159 u160 u161 u162 u163 u164 u165 u166 u167 u168 u169 u170 u171 u172 u173 u174 u175 u176 u177 u178 u179 u180 u181 u182 u183 u184 u185 : Value} :
    Code.wp Try.prog rankedEnd3 (bodyPost Try.prog Try.f7 P) ⟨#[u0, u1, u2, u3, u4, u5, u6, u7, .int .i64 (m : Nat), .slice aL nL capL, u10, u11, u12, u13, u14, u15, u16, .int .i64 (more : Nat), u18, .slice aK ks.length capK, .string after, u21, u22, u23, u24, u25, u26, u27, u28, u29, u30, u31, u32, u33, u34, u35, u36, u37, u38, u39, u40, u41, u42, u43, u44, u45, u46, u47, u48, u49, u50, u51, u52, u53, u54, u55, u56, u57, u58, u59, u60, u61, u62, u63, u64, u65, u66, u67, u68, u69, u70, u71, u72, u73, u74, u75, u76, u77, u78, u79, u80, u81, u82, u83, u84, u85, u86, u87, u88, u89, u90, u91, u92, u93, u94, u95, u96, u97, u98, u99, u100, u101, u102, u103, u104, u105, u106, u107, u108, u109, u110, u111, u112, u113, u114, u115, u116, u117, u118, u119, u120, u121, u122, u123, u124, u125, u126, u127, u128, u129, u130, u131, u132, u133, u134, u135, u136, u137, u138, u139, u140, u141, u142, u143, u144, u145, u146, u147, u148, u149, u150, u151, u152, u153, u154, u155, u156, u157, u158, u159, u160, u161, u162, u163, u164, u165, u166, u167, u168, u169, u170, u171, u172, u173, u174, u175, u176, u177, u178, u179, u180, u181, u182, u183, u184, u185], []⟩ W := by
  obtain ⟨_, _, e1, hle1, _, hc1⟩ := rowS hr
  cases e1
  clear hr
  have HR : Hid ((after :: ks).Pairwise fun a b => cmpB a b < 0) := hrise
  clear hrise
  conv => arg 2; whnf
  go_wp2_with fail
  go_loopw [20, 21] (fun y x wx => ∃ (j : Nat) (last : ByteArray), x = .int .i64 j ∧ y = .string last ∧ j ≤ ks.length ∧ Hid ((after :: ks)[j]? = some last) ∧ Fr [] W wx) (fun _ x _ => ks.length - (intOf x).toNat)
  case atStart => exact ⟨0, after, rfl, rfl, Nat.zero_le _, (rfl : (after :: ks)[0]? = some after), Fr.refl _ _⟩
  case round =>
    obtain ⟨j, last, rfl, rfl, hj, HL, hw⟩ := hrel
    by_cases hjl : j < ks.length
    · obtain ⟨c, hc⟩ : ∃ c, ks[j]? = some c := ⟨ks[j], List.getElem?_eq_getElem hjl⟩
      obtain ⟨x1, rfl, hb1, hl1, d1, _⟩ := hc1 j c hc
      have e1 : wr.cell? ⟨x1, j, none⟩ = _ := (hw.below.cell (p := ⟨x1, j, none⟩) hl1).trans d1
      have hj1 : (j : Int) < (ks.length : Int) := by omega
      have hj0 : (0 : Int) ≤ (j : Int) := by omega
      have hlt : cmpB last c < 0 := by
        have h1 : (after :: ks)[j + 1]? = some c := by simpa using hc
        have h2 := List.pairwise_iff_getElem.1 HR.out j (j + 1) (List.getElem?_eq_some_iff.1 HL.out).1 (List.getElem?_eq_some_iff.1 h1).1 (by omega)
        rw [(List.getElem?_eq_some_iff.1 HL.out).2, (List.getElem?_eq_some_iff.1 h1).2] at h2
        exact h2
      have hq := fun W => leq_run hlt W
      have HN : Hid ((after :: ks)[j + 1]? = some c) := by show _ = _; simpa using hc
      clear hc hc1 d1 hlt
      go_wp2_with fail
      exact ⟨⟨j + 1, c, by go_num, rfl, hjl, HN, hw⟩, by simp [intOf]; omega⟩
    · obtain rfl : j = ks.length := by omega
      have hdec : decide ((ks.length : Int) < (ks.length : Int)) = false := by simp
      have hle : (ks.length : Int) ≤ (m : Int) := by omega
      clear hc1
      rcases hfin with rfl | rfl
      · go_wp2_with fail
        all_goals exact hw
      · go_wp2_with fail
        all_goals exact hw
end Go.Proofs.Ytmeplfpnpogalaa.kp
