/-
  Ranked: from the walk over what Largest tells on.
-/
import Derived.Test.YtmeplfpnpogalaaKpYa
namespace Go.Proofs.Ytmeplfpnpogalaa.kp
open Go.RowKit dk

def pS (out : List Ent) : Nat → Nat
  | 0 => 201
  | i + 1 => (atE out i).blob.size
def pK (out : List Ent) : Nat → ByteArray
  | 0 => ByteArray.empty
  | i + 1 => (atE out i).key
theorem told_mem {all out rest : List Ent} (t : Told all out rest) {i : Nat} (hi : i < out.length) : atE out i ∈ all :=
  t.perm.mem_iff.1 (List.mem_append_left _ (List.mem_of_getElem? (atE_get hi)))
theorem told_step {o : List Kn} (h40 : o.length = 40) (hok : ∀ k ∈ o, k.Ok) {out rest : List Ent} (t : Told (liveE (entsF 0 o)) out rest) {i : Nat} (hi : i < out.length) :
    (atE out i).blob.size ≤ pS out i ∧ ((atE out i).blob.size = pS out i → leqK (atE out i).key (pK out i) = false) := by
  obtain ⟨b, hb, eb, _, hsz, _⟩ := told_get h40 hok (told_mem t hi)
  cases i with
  | zero => exact ⟨by simp only [pS]; omega, fun h => by simp only [pS] at h; omega⟩
  | succ j =>
    obtain ⟨a, ha, ea, _, hsz2, _⟩ := told_get h40 hok (told_mem t (show j < out.length by omega))
    have s := (t.strict (live_nodup o h40)).1
    have hj : j < out.length := by omega
    have h := List.pairwise_iff_getElem.1 s j (j + 1) hj hi (by omega)
    have g1 : out[j] = atE out j := by have := atE_get hj; rw [List.getElem?_eq_getElem hj] at this; exact Option.some.inj this
    have g2 : out[j + 1] = atE out (j + 1) := by have := atE_get hi; rw [List.getElem?_eq_getElem hi] at this; exact Option.some.inj this
    rw [g1, g2] at h
    obtain ⟨⟨ga, gb, h1⟩, h2⟩ := h
    have h3 : ¬ leE (atE out (j + 1)) (atE out j) := fun hh => h2 ⟨gb, ga, hh⟩
    rw [leE_iff ha hb ea eb] at h1
    rw [leE_iff hb ha eb ea] at h3
    simp only [pS, pK]
    refine ⟨by omega, fun h => ?_⟩
    rw [ea, eb, leqK_keys hb ha]
    simp
    omega
theorem _root_.Go.Proofs.Ytmeplfpnpogalaa.dk.Fr.cellX {S : List Nat} {w w' : World} (h : Fr S w w') {p : Addr} (hp : p.block < w.heap.size) (hn : p.block ∉ S) : w'.cell? p = w.cell? p := by
  simp only [World.cell?, h.block p.block hp hn]
noncomputable def rankedEnd12 : Code := (Try.f7.body.map (dropSeq 9)).getD .skip

set_option maxRecDepth 1000000 in
set_option maxHeartbeats 8000000 in
theorem rankedTail12 (W : World) (base b0 hb x d lb : Nat) (v : Value) (o : List Kn) (hS : ShopAt W base hb x d lb v o) (after : ByteArray) (m capL : Nat) (aL : Option Addr) (out rest : List Ent) (t : Told (liveE (entsF 0 o)) out rest) (hm2 : m < 1000)
    (hown : W.ownsRow b0 9 1 (.slice aL out.length capL) (out.map (·.key)).length (strsV (out.map (·.key))))
    (P : Ending → World → Prop) (hP : ∀ w', Touch base W w' → P (.returned (.bool true)) w') {u0 u1 u3 u4 u5 u6 u10 u11 u12 u13 u14 u15 u16 u17 u18 u19 u20 u21 u22 u23 u24 u25 u26 u27 u28 u29 u30 u31 u32 u33 u34 u35 u36 u37 u38 u39 u40 u41 u42 u43 u44 u45 u46 u47 u48 u49 u50 u51 u52 u53 u54 u55 u56 u57 u58 u59 u60 u61 u62 u63 u64 u65 u66 u67 u68 u69 u70 u71 u72 u73 u74 u75 u76 u77 u78 u79 u80 u81 u82 u83 u84 u85 u86 u87 u88 u89 u90 u91 u92 u93 u94 u95 u96 u97 u98 u99 u100 u101 u102 u103 u104 u105 u106 u107 u108 u109 u110 u111 u112 u113 u114 u115 u116 u117 u118 u119 u120 u121 u122 u123 u124 u125 u126 u127 u128 u129 u130 u131 u132 u133 u134 u135 u136 u137 u138 u139 u140 u141 u142 u143 u144 u145 u146 u147 u148 u149 u150 u151 u152 u153 u154 u155 u156 u157 u158 u159 u160 u161 u162 u163 u164 u165 u166 u167 u168 u169 u170 u171 u172 u173 u174 u175 u176 u177 u178 u179 u180 u181 u182 u183 u184 u185 : Value} :
    Code.wp Try.prog rankedEnd12 (bodyPost Try.prog Try.f7 P) ⟨#[u0, u1, .string after, u3, u4, u5, u6, .pointer (some ⟨hb, 0, none⟩), .int .i64 (m : Nat), .slice aL out.length capL, u10, u11, u12, u13, u14, u15, u16, u17, u18, u19, u20, u21, u22, u23, u24, u25, u26, u27, u28, u29, u30, u31, u32, u33, u34, u35, u36, u37, u38, u39, u40, u41, u42, u43, u44, u45, u46, u47, u48, u49, u50, u51, u52, u53, u54, u55, u56, u57, u58, u59, u60, u61, u62, u63, u64, u65, u66, u67, u68, u69, u70, u71, u72, u73, u74, u75, u76, u77, u78, u79, u80, u81, u82, u83, u84, u85, u86, u87, u88, u89, u90, u91, u92, u93, u94, u95, u96, u97, u98, u99, u100, u101, u102, u103, u104, u105, u106, u107, u108, u109, u110, u111, u112, u113, u114, u115, u116, u117, u118, u119, u120, u121, u122, u123, u124, u125, u126, u127, u128, u129, u130, u131, u132, u133, u134, u135, u136, u137, u138, u139, u140, u141, u142, u143, u144, u145, u146, u147, u148, u149, u150, u151, u152, u153, u154, u155, u156, u157, u158, u159, u160, u161, u162, u163, u164, u165, u166, u167, u168, u169, u170, u171, u172, u173, u174, u175, u176, u177, u178, u179, u180, u181, u182, u183, u184, u185], []⟩ W := by
  have hlen := hS.len
  have hok := hS.ok
  have hel := entsF_length 0 o
  have hol : out.length ≤ 40 := by
    have h1 := t.perm.length_eq
    have h2 := List.length_filter_le (fun e : Ent => !e.dead) (entsF 0 o)
    have h3 : (liveE (entsF 0 o)).length ≤ (entsF 0 o).length := List.length_filter_le _ _
    rw [List.length_append] at h1
    omega
  have HP : Hid (∀ w', Touch base W w' → P (.returned (.bool true)) w') := hP
  clear hP
  conv => arg 2; whnf
  refine wp_seq_k fun K12 h12 => ?_
  have H12 : Hid _ := h12
  clear h12
  go_wp2_with fail
  refine H12.out _ _ ?_
  refine wp_seq_k fun K13 h13 => ?_
  have H13 : Hid _ := h13
  clear h13
  go_wp2_with fail
  refine H13.out _ _ ?_
  refine wp_seq_k fun K14 h14 => ?_
  have H14 : Hid _ := h14
  clear h14
  go_wp2_with fail
  go_loopw [12, 13, 14] (fun s ws y wx => ∃ i : Nat, s = .int .i64 (pS out i : Nat) ∧ ws = .string (pK out i) ∧ y = .int .i64 i ∧ i ≤ out.length ∧ Fr [x] W wx ∧ ShopAt wx base hb x d lb v o) (fun _ _ y _ => out.length - (intOf y).toNat)
  case atStart => exact ⟨0, rfl, rfl, rfl, Nat.zero_le _, Fr.refl _ _, hS⟩
  case round =>
    obtain ⟨i, rfl, rfl, rfl, hi, hw, hSr⟩ := hrel
    have hownr := hw.row hown (fun g hg => by simp; intro e; subst e; exact row_ne hS.store.blk (by decide) hown hg)
    by_cases hlt : i < out.length
    · obtain ⟨aL', capL', hv, hle3, hmx3, hc⟩ := rowS hownr
      injection hv with e1 e2 e3
      subst e1 e3
      obtain ⟨g, rfl, hg0, hg1, c, _⟩ := hc i (atE out i).key (by rw [List.getElem?_map, atE_get hlt]; rfl)
      obtain ⟨hs1, hs2⟩ := told_step hlen hok t hlt
      obtain ⟨tt, htt, ek, hget, hsz, _⟩ := told_get hlen hok (told_mem t hlt)
      have HS2 : Hid (pS out (i + 1) = (atE out i).blob.size) := rfl
      have HK2 : Hid (pK out (i + 1) = keyB tt) := ek
      have hgx : g ≠ x := fun h => row_ne hSr.store.blk (by decide) hownr (by rw [h]; rfl)
      have g0 : wr.cell? ⟨hb, 0, none⟩ = some (.pointer (some ⟨x, 0, none⟩)) := hSr.shop.cell 0
      rw [ek] at c hs2
      have CG : ∀ W1, Fr [] wr W1 → Calls Try.prog 20 #[.pointer (some ⟨x, 0, none⟩), .string (keyB tt)] W1 fun e w' => e = .returned (.tuple #[.string (atE out i).blob, .int .i64 0]) ∧ w'.cell? ⟨hb, 0, none⟩ = some (.pointer (some ⟨x, 0, none⟩)) ∧ w'.cell? ⟨g, i, none⟩ = some (.string (keyB tt)) ∧ ShopAt w' base hb x d lb v o ∧ Fr [x] W w' := by
        intro W1 hW1
        have h := stGet W1 base x v (entsF 0 o) (keyB tt) (hSr.fr hW1).store (keyOk htt) (monoAny o hlen (keyB tt)) (by omega)
        rw [hget] at h
        refine h.mono ?_
        rintro e w1 ⟨he, hSt1, hf1⟩
        have hf2 : Fr [x] wr w1 := hW1.nil.trans hf1
        have hS1 := hSr.store_set hf2 (fun y hy => by simp at hy; exact .inl hy) hSt1
        exact ⟨he, hS1.shop.cell 0, (hf2.cellX hg1 (by simpa using hgx)).trans c, hS1, hw.trans hf2⟩
      have hi0 : (0 : Int) ≤ (i : Int) := by omega
      have hi1 : (i : Int) < (out.length : Int) := by omega
      have hq := fun W => leqK_run (keyB tt) (pK out i) W
      generalize (atE out i).blob = bb at *
      generalize pS out i = sz at *
      generalize pK out i = kk at *
      clear e2 hle3 hmx3 hc hownr hown hw hSr hS hsz htt hget ek hok hg0 t hel
      go_wp2_with fail
      go_region_held3 (fun w' => w'.cell? ⟨hb, 0, none⟩ = some (.pointer (some ⟨x, 0, none⟩)) ∧ w'.cell? ⟨g, i, none⟩ = some (.string (keyB tt))) (go_keep) ((go_at_call 20; refine (CG _ ((Fr.refl [] wr).drew)).mono ?_; rintro e1 w1 ⟨rfl, n0, n1, hS1, hf1⟩))
      clear c g0 CG
      have hb1 : ¬ (sz : Int) < (bb.size : Int) := by omega
      by_cases hb2 : bb.size = sz
      · have hle := hs2 hb2
        rw [hle] at hq
        subst hb2
        clear hs2 hs1 hle
        go_wp2_with fail
        exact ⟨⟨i + 1, by rw [HS2.out], by rw [HK2.out], by go_num, hlt, hf1, hS1⟩, by simp [intOf]; omega⟩
      · have hb3 : ((bb.size : Int) == (sz : Int)) = false := by simp; omega
        clear hs2
        go_wp2_with fail
        exact ⟨⟨i + 1, by rw [HS2.out], by rw [HK2.out], by go_num, hlt, hf1, hS1⟩, by simp [intOf]; omega⟩
    · obtain rfl : i = out.length := by omega
      go_wp2_with fail
      refine H14.out _ _ ?_
      refine rankedTail22 wr base hb x d lb v o hSr after (pK out out.length) m out.length (pS out out.length) capL aL hm2 ?_ (by omega) P ?_
      · cases hn : out.length with
        | zero => exact .inr rfl
        | succ j =>
          left
          have hj : j < out.length := by omega
          have e := cnt_told hlen hok t (last := atE out j) (by rw [List.getLast?_eq_getElem?, hn]; exact atE_get hj)
          rw [hn] at e
          exact e
      · intro w' hT
        exact HP.out w' ((Touch.of hw (fun y hy => by simp at hy; subst hy; exact hS.store.le)).trans hT)
end Go.Proofs.Ytmeplfpnpogalaa.kp
