/-
  right: its last loop.
-/
import Derived.Test.YtmeplfpnpogalaaKpI
namespace Go.Proofs.Ytmeplfpnpogalaa.kp
open Go.RowKit dk

def dropSeq : Nat → Code → Code
  | 0, c => c
  | n + 1, .seq _ b => dropSeq n b
  | _, c => c
noncomputable def rightEnd : Code := (Try.f15.body.map (dropSeq 7)).getD .skip

set_option maxRecDepth 1000000 in
set_option maxHeartbeats 8000000 in
theorem rightTail (W : World) (Q : List ByteArray) (a1 aO : Option Addr) (cap1 capO b1 bO : Nat) (hr1 : W.ownsRow b1 9 1 (.slice a1 Q.length cap1) Q.length (strsV Q)) (hrO : W.ownsRow bO 9 1 (.slice aO Q.length capO) Q.length (strsV Q)) (hQ : Q.length ≤ 40)
    (P : Ending → World → Prop) (hP : ∀ w', Fr [] W w' → P (.returned (.bool true)) w') {u0 u1 u2 u3 u4 u6 u7 u8 u9 u10 u12 u13 u14 u15 u16 u17 u18 u19 u20 u21 u22 u23 u24 u25 u26 u27 u28 u29 u30 u31 u32 u33 u34 u35 u36 u37 u38 u39 u40 u41 u42 u43 u44 u45 u46 u47 u48 u49 u50 u51 u52 u53 u54 u55 u56 u57 u58 u59 u60 u61 u62 u63 u64 u65 u66 u67 u68 u69 u70 u71 u72 u73 u74 u75 u76 u77 u78 u79 u80 u81 u82 u83 u84 u85 u86 u87 u88 u89 u90 u91 u92 u93 u94 u95 u96 u97 u98 u99 u100 u101 u102 u103 u104 u105 u106 u107 u108 u109 u110 u111 u112 u113 u114 u115 u116 u117 u118 : Value} :
    Code.wp Try.prog rightEnd (bodyPost Try.prog Try.f15 P) ⟨#[u0, u1, u2, u3, u4, .slice aO Q.length capO, u6, u7, u8, u9, u10, .slice a1 Q.length cap1, u12, u13, u14, u15, u16, u17, u18, u19, u20, u21, u22, u23, u24, u25, u26, u27, u28, u29, u30, u31, u32, u33, u34, u35, u36, u37, u38, u39, u40, u41, u42, u43, u44, u45, u46, u47, u48, u49, u50, u51, u52, u53, u54, u55, u56, u57, u58, u59, u60, u61, u62, u63, u64, u65, u66, u67, u68, u69, u70, u71, u72, u73, u74, u75, u76, u77, u78, u79, u80, u81, u82, u83, u84, u85, u86, u87, u88, u89, u90, u91, u92, u93, u94, u95, u96, u97, u98, u99, u100, u101, u102, u103, u104, u105, u106, u107, u108, u109, u110, u111, u112, u113, u114, u115, u116, u117, u118], []⟩ W := by
  obtain ⟨_, _, e1, hle1, _, hc1⟩ := rowS hr1
  obtain ⟨_, _, e2, hle2, _, hc2⟩ := rowS hrO
  cases e1
  cases e2
  clear hr1 hrO
  conv => arg 2; whnf
  go_wp2_with fail
  go_loopw [13] (fun y wx => ∃ j : Nat, y = .int .i64 j ∧ j ≤ Q.length ∧ Fr [] W wx) (fun y _ => Q.length - (intOf y).toNat)
  case atStart => exact ⟨0, rfl, Nat.zero_le _, Fr.refl _ _⟩
  case round =>
    obtain ⟨j, rfl, hj, hw⟩ := hrel
    by_cases hjl : j < Q.length
    · obtain ⟨c, hc⟩ : ∃ c, Q[j]? = some c := ⟨Q[j], List.getElem?_eq_getElem hjl⟩
      obtain ⟨x1, rfl, hb1, hl1, d1, _⟩ := hc1 j c hc
      obtain ⟨x2, rfl, hb2, hl2, d2, _⟩ := hc2 j c hc
      have e1 : wr.cell? ⟨x1, j, none⟩ = _ := (hw.below.cell (p := ⟨x1, j, none⟩) hl1).trans d1
      have e2 : wr.cell? ⟨x2, j, none⟩ = _ := (hw.below.cell (p := ⟨x2, j, none⟩) hl2).trans d2
      have hj1 : (j : Int) < (Q.length : Int) := by omega
      have hj0 : (0 : Int) ≤ (j : Int) := by omega
      clear hc hc1 hc2 d1 d2
      go_wp2_with fail
      go_quiet (fail)
      go_wp2_with fail
      exact ⟨⟨j + 1, by go_num, hjl, hw.drewN _⟩, by simp [intOf]; omega⟩
    · obtain rfl : j = Q.length := by omega
      have hdec : decide ((Q.length : Int) < (Q.length : Int)) = false := by simp
      clear hc1 hc2
      go_wp2_with fail
      exact hw
end Go.Proofs.Ytmeplfpnpogalaa.kp
