/-
  Ranked: from Keys on.
-/
import Derived.Test.YtmeplfpnpogalaaKpW
namespace Go.Proofs.Ytmeplfpnpogalaa.kp
open Go.RowKit dk

noncomputable def rankedEnd28 : Code := (Try.f7.body.map (dropSeq 14)).getD .skip

set_option maxRecDepth 1000000 in
set_option maxHeartbeats 8000000 in
theorem rankedTail28 (W : World) (base hb x d lb : Nat) (v : Value) (o : List Kn) (hS : ShopAt W base hb x d lb v o) (after : ByteArray) (m nL more capL : Nat) (aL : Option Addr) (hm2 : m < 1000) (hfin : more = nL ∨ nL = 0) (hnl : nL < 1000)
    (P : Ending → World → Prop) (hP : ∀ w', Touch base W w' → P (.returned (.bool true)) w') {u0 u1 u3 u4 u5 u6 u10 u11 u12 u13 u14 u15 u16 u18 u19 u20 u21 u22 u23 u24 u25 u26 u27 u28 u29 u30 u31 u32 u33 u34 u35 u36 u37 u38 u39 u40 u41 u42 u43 u44 u45 u46 u47 u48 u49 u50 u51 u52 u53 u54 u55 u56 u57 u58 u59 u60 u61 u62 u63 u64 u65 u66 u67 u68 u69 u70 u71 u72 u73 u74 u75 u76 u77 u78 u79 u80 u81 u82 u83 u84 u85 u86 u87 u88 u89 u90 u91 u92 u93 u94 u95 u96 u97 u98 u99 u100 u101 u102 u103 u104 u105 u106 u107 u108 u109 u110 u111 u112 u113 u114 u115 u116 u117 u118 u119 u120 u121 u122 u123 u124 u125 u126 u127 u128 u129 u130 u131 u132 u133 u134 u135 u136 u137 u138 u139 u140 u141 u142 u143 u144 u145 u146 u147 u148 u149 u150 u151 u152 u153 u154 u155 u156 u157 u158 u159 u160 u161 u162 u163 u164 u165 u166 u167 u168 u169 u170 u171 u172 u173 u174 u175 u176 u177 u178 u179 u180 u181 u182 u183 u184 u185 : Value} :
    Code.wp Try.prog rankedEnd28 (bodyPost Try.prog Try.f7 P) ⟨#[u0, u1, .string after, u3, u4, u5, u6, .pointer (some ⟨hb, 0, none⟩), .int .i64 (m : Nat), .slice aL nL capL, u10, u11, u12, u13, u14, u15, u16, .int .i64 (more : Nat), u18, u19, u20, u21, u22, u23, u24, u25, u26, u27, u28, u29, u30, u31, u32, u33, u34, u35, u36, u37, u38, u39, u40, u41, u42, u43, u44, u45, u46, u47, u48, u49, u50, u51, u52, u53, u54, u55, u56, u57, u58, u59, u60, u61, u62, u63, u64, u65, u66, u67, u68, u69, u70, u71, u72, u73, u74, u75, u76, u77, u78, u79, u80, u81, u82, u83, u84, u85, u86, u87, u88, u89, u90, u91, u92, u93, u94, u95, u96, u97, u98, u99, u100, u101, u102, u103, u104, u105, u106, u107, u108, u109, u110, u111, u112, u113, u114, u115, u116, u117, u118, u119, u120, u121, u122, u123, u124, u125, u126, u127, u128, u129, u130, u131, u132, u133, u134, u135, u136, u137, u138, u139, u140, u141, u142, u143, u144, u145, u146, u147, u148, u149, u150, u151, u152, u153, u154, u155, u156, u157, u158, u159, u160, u161, u162, u163, u164, u165, u166, u167, u168, u169, u170, u171, u172, u173, u174, u175, u176, u177, u178, u179, u180, u181, u182, u183, u184, u185], []⟩ W := by
  have g0 : W.cell? ⟨hb, 0, none⟩ = some (.pointer (some ⟨x, 0, none⟩)) := hS.shop.cell 0
  have hel := entsF_length 0 o
  have hlen := hS.len
  have HP : Hid (∀ w', Touch base W w' → P (.returned (.bool true)) w') := hP
  clear hP
  conv => arg 2; whnf
  refine wp_seq_k fun K28 h28 => ?_
  have H28 : Hid _ := h28
  clear h28
  go_wp2_with fail
  refine (stKeys W base x v (entsF 0 o) after m hS.store (monoAny o hlen after) (by omega)).mono ?_
  rintro e w1 ⟨v1, rfl, hown1, hSt1, hf1⟩
  go_wp2_with fail
  refine H28.out _ _ ?_
  refine wp_seq_k fun K29 h29 => ?_
  have H29 : Hid _ := h29
  clear h29
  go_wp2_with fail
  refine H29.out _ _ ?_
  obtain ⟨a1, cap1, rfl, hle3, hmx3, _⟩ := rowS hown1
  refine rankedTail3 w1 (keysL (entsF 0 o) after m) after m nL more capL cap1 _ aL a1 hown1 (keys_rise o hlen after m) ?_ hm2 hfin hnl P ?_
  · unfold keysL
    rw [List.length_take]
    simp
    omega
  · intro w' hw
    exact HP.out w' ((Touch.of hf1 (fun y hy => by simp at hy; subst hy; exact hS.store.le)).trans (Touch.of hw (by simp)))
end Go.Proofs.Ytmeplfpnpogalaa.kp
