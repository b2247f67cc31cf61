/-
  The shelf: Largest.
-/
import Derived.Test.YtmeplfpnpogalaaKpS
namespace Go.Proofs.Ytmeplfpnpogalaa.kp
open Go.RowKit dk

/-- those that are live -/
def liveE (l : List Ent) : List Ent := l.filter fun e => !e.dead
theorem liveE_take {l : List Ent} {j : Nat} {c : Ent} (hc : l[j]? = some c) : liveE (l.take (j + 1)) = liveE (l.take j) ++ if c.dead then [] else [c] := by
  cases hd : c.dead <;> simp [liveE, List.take_add_one, hc, hd]
/-- what is told: out, the largest first, of all; rest is what is left -/
structure Told (all out rest : List Ent) : Prop where
  perm : (out ++ rest).Perm all
  sorted : out.Pairwise leG
  first : ∀ x ∈ out, ∀ y ∈ rest, leG x y

theorem root0 {f : Nat → Ent} {n : Nat} (h0 : leG (f 0) (f 0)) (h : Heap leG f n) : ∀ c, c < n → leG (f 0) (f c) := by
  intro c
  induction c using Nat.strongRecOn with
  | _ c ih =>
    intro hc
    by_cases e : c = 0
    · rw [e]; exact h0
    · exact leG_trans _ _ _ (ih ((c - 1) / 2) (by omega) (by omega)) (h c (by omega) hc)
theorem Told.next {all out h h' : List Ent} {x : Ent} (t : Told all out h) (hp : (h' ++ [x]).Perm h) (hx : ∀ y ∈ h, leG x y) : Told all (out ++ [x]) h' := by
  have hm : ∀ y ∈ h', y ∈ h := fun y hy => hp.mem_iff.1 (List.mem_append_left _ hy)
  have hxm : x ∈ h := hp.mem_iff.1 (List.mem_append_right _ (by simp))
  refine ⟨?_, ?_, ?_⟩
  · refine List.Perm.trans ?_ t.perm
    rw [List.append_assoc]
    refine List.Perm.append_left out (List.Perm.trans ?_ hp)
    exact List.perm_append_comm
  · rw [List.pairwise_append]
    exact ⟨t.sorted, by simp, fun a ha b hb => by simp at hb; rw [hb]; exact t.first a ha x hxm⟩
  · intro a ha y hy
    rcases List.mem_append.1 ha with h1 | h1
    · exact t.first a h1 y (hm y hy)
    · simp at h1; rw [h1]; exact hx y (hm y hy)
def lenN : Value → Nat
  | .slice _ n _ => n
  | _ => 0
theorem fieldEnt (a b : ByteArray) (d : Bool) (W : World) : (Instr.field 145 (.agg #[.string a, .string b, .bool d]) 0).run Try.prog W = .ok (.string a) W := by kernel_rfl

/-- what Largest leaves -/
structure LargestPost (w : World) (l : List Ent) (n : Int) (v' : Value) (out : List Ent) (w' : World) : Prop where
  row : w'.ownsRow w.heap.size 9 1 v' out.length (strsV (out.map (·.key)))
  told : ∃ rest, Told (liveE l) out rest
  len : out.length = min n.toNat (liveE l).length
  fr : Fr [] w w'

set_option maxRecDepth 100000 in
set_option maxHeartbeats 8000000 in
theorem shLargest (w : World) (base b off : Nat) (v : Value) (l : List Ent) (n : Int) (hc : w.cell? ⟨b, off, none⟩ = some v) (hr : w.ownsRow base 145 3 v l.length (entsV l)) (hl : l.length < 1073741000) (hg : Goods l) :
    Calls Try.prog 46 #[.pointer (some ⟨b, off, none⟩), .int .i64 n] w fun e w' => ∃ v' out, e = .returned v' ∧ LargestPost w l n v' out w' := by
  have hblt : b < w.heap.size := block_lt_of_cell hc
  obtain ⟨a, cap, rfl, hle, hmx, hcell⟩ := row3 hr
  clear hr
  go_enter Try.func46, Try.ntmps46
  go_wp2_with fail
  go_loopw [14] (fun x wr => ∃ (k : Nat) (vh : Value) (h : List Ent), x = .int .i64 k ∧ k ≤ l.length ∧ HeapAt wr w.heap.size w.heap.size vh h ∧ h.Perm (liveE (l.take k)) ∧ Hid (Heap leG (atE h) h.length) ∧ Fr [] w wr) (fun x _ => l.length - (intOf x).toNat)
  case atStart => exact ⟨0, .slice none 0 0, [], rfl, Nat.zero_le _, ⟨at_alloc w _ _, World.ownsRow_nil _ _ _ _, Nat.le_refl _, by decide⟩, List.Perm.refl _, (fun c _ h => absurd h (by simp)), (Fr.refl _ _).alloc _⟩
  case round =>
    obtain ⟨k, vh, hp, rfl, hk, hH, hP, HH, hw⟩ := hrel
    by_cases hlt : k < l.length
    · obtain ⟨c, hce⟩ : ∃ c, l[k]? = some c := ⟨l[k], List.getElem?_eq_getElem hlt⟩
      obtain ⟨g, rfl, hbg, hgl, d0, d1, d2, _⟩ := hcell k c hce
      rw [← hw.below.cell (p := ⟨g, k * 3, none⟩) hgl] at d0
      rw [← hw.below.cell (p := ⟨g, k * 3 + 1, none⟩) hgl] at d1
      rw [← hw.below.cell (p := ⟨g, k * 3 + 2, none⟩) hgl] at d2
      have hgw : g < wr.heap.size := Nat.lt_of_lt_of_le hgl hw.size
      have HL : Hid (liveE (l.take (k + 1)) = liveE (l.take k) ++ if c.dead then [] else [c]) := liveE_take hce
      have hgc : Good c := hg c (List.mem_of_getElem? hce)
      have hgh : Goods hp := fun e he => hg e (List.mem_of_mem_take ((List.mem_filter.1 (hP.mem_iff.1 he)).1))
      have hll : hp.length ≤ l.length := by
        rw [hP.length_eq]
        exact Nat.le_trans (List.length_filter_le ..) (by simp; omega)
      clear hce hcell
      obtain ⟨ck, cb, cd⟩ := c
      cases cd
      · have CP := heapPush (wr.alloc (.cells #[.string ck, .string cb, .bool false] 145)) w.heap.size w.heap.size vh hp ⟨ck, cb, false⟩ ⟨hH.blk.alloc _, hH.row.alloc _, hH.le, hH.small⟩ hgh hgc HH.out (by omega)
        unfold hI entI at CP
        go_wp2_with fail
        refine CP.mono ?_
        rintro e w1 ⟨v1, h1, rfl, hH1, hP1, hh1, hT1⟩
        go_wp2_with fail
        refine ⟨⟨k + 1, v1, h1, by go_num, hlt, hH1, ?_, hh1, Fr.touch (hw.alloc _) hT1⟩, by simp [intOf]; omega⟩
        rw [HL.out]
        exact hP1.trans (hP.append_right _)
      · go_wp2_with fail
        refine ⟨⟨k + 1, vh, hp, by go_num, hlt, ⟨hH.blk.alloc _, hH.row.alloc _, hH.le, hH.small⟩, ?_, HH, hw.alloc _⟩, by simp [intOf]; omega⟩
        rw [HL.out]
        simpa using hP
    · obtain rfl : k = l.length := by omega
      rw [List.take_length] at hP
      clear hcell
      go_wp2_with fail
      go_loopw [8] (fun y wx => ∃ (ks : List ByteArray) (out : List Ent) (vh : Value) (h : List Ent), wx.ownsRow w.heap.size 9 1 y ks.length (strsV ks) ∧ Hid (ks = out.map (·.key)) ∧ HeapAt wx w.heap.size w.heap.size vh h ∧ Hid (Told (liveE l) out h) ∧ Hid (Heap leG (atE h) h.length) ∧ ks.length ≤ n.toNat ∧ ks.length + h.length = (liveE l).length ∧ Fr [] w wx) (fun y _ => (liveE l).length - lenN y)
      case atStart =>
        refine ⟨[], [], vh, hp, World.ownsRow_nil _ _ _ _, (rfl : ([] : List ByteArray) = [].map _), hH, ?_, HH, Nat.zero_le _, by simpa using hP.length_eq, hw⟩
        exact (⟨by simpa using hP, by simp, by simp⟩ : Told (liveE l) [] hp)
      case round =>
        rename_i vh0 hp0 hH0 hP0 HH0 hw0
        obtain ⟨ks, out, vh, h, hown, HK, hH, HT, HH, hno, hsum, hw⟩ := hrel
        have hll : (liveE l).length ≤ l.length := List.length_filter_le ..
        have hgA : ∀ e ∈ h, Good e := fun e he => hg e ((List.mem_filter.1 (HT.out.perm.mem_iff.1 (List.mem_append_right _ he))).1)
        have HKL : Hid (out.length = ks.length) := by show _ = _; rw [HK.out]; simp
        obtain ⟨aO, capO, rfl, hleO, hmxO, _⟩ := rowS hown
        obtain ⟨ah, caph, hvh, _, _, _⟩ := row3 hH.row
        have c0 : wr.cell? ⟨w.heap.size, 0, none⟩ = some vh := hH.blk.cell 0
        rw [hvh] at c0
        have HX : Hid (∀ rest, Told (liveE l) out rest → ks.length = min n.toNat (liveE l).length → LargestPost w l n (.slice aO ks.length capO) out wr) := fun rest ht hm => ⟨by rw [HKL.out, ← HK.out]; exact hown, ⟨rest, ht⟩, by rw [HKL.out]; exact hm, hw⟩
        by_cases h1 : (ks.length : Int) < n
        · by_cases h2 : h = []
          · subst h2
            have hfin : Hid (LargestPost w l n (.slice aO ks.length capO) out wr) := HX.out [] HT.out (by simp at hsum; omega)
            clear HX
            go_wp2_with fail
            go_ret
            first
              | exact ⟨_, out, rfl, hfin.out⟩
              | exact ⟨_, rfl, out, hfin.out⟩
          · have hpos : 0 < h.length := List.length_pos_iff.2 h2
            obtain ⟨m, hm⟩ : ∃ m, h.length = m + 1 := ⟨h.length - 1, by omega⟩
            have CP := heapPop wr w.heap.size w.heap.size vh h m hH hgA HH.out hm
            unfold hI entI at CP
            have hroot : Hid (∀ y ∈ h, leG (atE h 0) y) := by
              intro y hy
              obtain ⟨t, ht, rfl⟩ := List.getElem_of_mem hy
              have e := atE_get ht
              rw [List.getElem?_eq_getElem ht] at e
              rw [Option.some.inj e]
              have g0 : Good (atE h 0) := Goods.at hgA hpos
              exact root0 ⟨g0, g0, leE_refl g0⟩ HH.out t ht
            have hTA : ∀ (c : Ent) (W : World), Sem.run Try.prog (Instr.typeAssert (.iface 145 (.agg #[.string c.key, .string c.blob, .bool c.dead])) 20 145 false) W = .ok (.agg #[.string c.key, .string c.blob, .bool c.dead]) W := fun c W => by kernel_rfl
            have hfe := fieldEnt
            have hc1 : (0 : Int) < (h.length : Int) := by omega
            generalize atE h 0 = x at *
            clear HX
            go_wp2_with fail
            refine CP.mono ?_
            rintro e w1 ⟨v1, h', rfl, hH1, hP1, hh1, hf1⟩
            have hml2 : h'.length + 1 = h.length := by have := hP1.length_eq; simpa using this
            have hown1 := hf1.row hown (fun g hgo hm => by
              rcases mem_own g hm with e | e
              · exact row_ne hH.blk (by decide) hown (by rw [hgo, e])
              · rcases hH.row.2 with ⟨e2, _⟩ | ⟨g', cap', cur', e2, _, hg', _⟩
                · rw [e2] at e; cases e
                · rw [e2] at e
                  cases e
                  exact row_ne (show At wr g' cur' 145 from hg') (by decide) hown hgo)
            have hw1 : Fr [] w w1 := Fr.then hw hf1 (fun k hk => by
              rcases List.mem_cons.1 hk with rfl | hk
              · exact Nat.le_refl _
              · exact own_le hH.row k hk)
            have hsz1 := hw1.size
            go_wp2_with (at_builtin; refine wpList_appS _ rfl (.tmp 35) (.tmp 40) 29 rfl w.heap.size 9 Try.underlying29 Try.infoStr (.slice aO ks.length capO) ks rfl (hown1.alloc _) w1.heap.size x.key 9 rfl (at_alloc _ _ _) (by omega) (by simp; omega) ?_; intro g3 cap3 w3 hown3 hgrow3 hat3)
            have hf3 : Fr (own (.slice aO ks.length capO)) (w1.alloc (.cells #[.string x.key] 9)) w3 := Fr.ofGrown hgrow3
            have hHA : HeapAt (w1.alloc (.cells #[.string x.key] 9)) w.heap.size w.heap.size v1 h' := ⟨hH1.blk.alloc _, hH1.row.alloc _, hH1.le, hH1.small⟩
            have hrs := hown1.alloc (.cells #[.string x.key] 9)
            have hH3 : HeapAt w3 w.heap.size w.heap.size v1 h' := ⟨hf3.at hHA.blk (not_own hHA.blk (by decide) hrs), hf3.row hHA.row (fun g hgo hm => by
              rcases hHA.row.2 with ⟨e2, _⟩ | ⟨g', cap', cur', e2, _, hg', _⟩
              · rw [e2] at hgo; cases hgo
              · rw [e2] at hgo
                cases hgo
                exact not_own (show At _ g' cur' 145 from hg') (by decide) hrs hm), hH1.le, hH1.small⟩
            refine ⟨⟨ks ++ [x.key], out ++ [x], v1, h', hown3, ?_, hH3, HT.out.next hP1 hroot.out, hh1, by simp; omega, by simp; omega, Fr.then (hw1.alloc _) hf3 (own_le hown1)⟩, ?_⟩
            · show _ = _
              rw [HK.out]
              simp
            · show (liveE l).length - (ks.length + 1) < (liveE l).length - ks.length
              omega
        · have hfin : Hid (LargestPost w l n (.slice aO ks.length capO) out wr) := HX.out h HT.out (by omega)
          clear HX
          go_wp2_with fail
          go_ret
          first
            | exact ⟨_, out, rfl, hfin.out⟩
            | exact ⟨_, rfl, out, hfin.out⟩
            | exact ⟨⟨_, rfl⟩, out, hfin.out⟩
end Go.Proofs.Ytmeplfpnpogalaa.kp
