/-
  The store: Largest; the order of what is told.
-/
import Derived.Test.YtmeplfpnpogalaaKpT
namespace Go.Proofs.Ytmeplfpnpogalaa.kp
open Go.RowKit dk Go.MuLone

set_option maxRecDepth 100000 in
set_option maxHeartbeats 4000000 in
theorem stLargest (w : World) (base s : Nat) (v : Value) (l : List Ent) (n : Int) (h : StoreAt w base s v l) (hl : l.length < 1073741000) (hg : Goods l) :
    Calls Try.prog 18 #[.pointer (some ⟨s, 0, none⟩), .int .i64 n] w fun e w' => ∃ v' out, e = .returned v' ∧ w'.ownsRow w.heap.size 9 1 v' out.length (strsV (out.map (·.key))) ∧ (∃ rest, Told (liveE l) out rest) ∧ out.length = min n.toNat (liveE l).length ∧ StoreAt w' base s v l ∧ Fr [s] w w' := by
  have hA1 := h.blk.set 0 (.int .i32 1)
  have hne := h.ne
  have hr1 := rowSetOther h.row s 0 hne (.int .i32 1)
  have C := shLargest (w.setCell ⟨s, 0, none⟩ (.int .i32 1)) base s 2 v l n (hA1.cell 2) hr1 hl hg
  have c0 := h.blk.cell 0
  have f0 := h.blk.frozen
  go_enter_defers Try.func18, Try.ntmps18
  go_wp2_with (go_at_call 44; refine (lock_free Try.muLib ⟨s, 0, none⟩ _ c0 (f0 0)).mono ?_; rintro e w' ⟨rfl, rfl⟩)
  refine C.mono ?_
  rintro e w2 ⟨v2, out, rfl, hp⟩
  have hown2 := hp.row
  have hf2 := hp.fr
  rw [World.size_setCell] at hown2
  go_wp2_with fail
  refine leaves_cons (f := 45) (args := #[.pointer (some ⟨s, 0, none⟩)]) (by simp) (by simp [go_sem]) ?_
  have hA2 := hf2.at hA1 (by simp)
  refine (unlock_deferred Try.muLib ⟨s, 0, none⟩ .returning _ (hA2.cell 0) (hA2.frozen 0)).mono ?_
  rintro e u' w'' ⟨rfl, rfl, rfl⟩
  refine ⟨_, results_tmp rfl _ _ _, v2, out, rfl, rowSetOther hown2 s 0 (fun hh => by have := (hown2.lt _ hh).1; have := h.blk.lt; omega) _, hp.told, hp.len, ⟨hA2.set 0 _, rowSetOther (hf2.row hr1 (by simp)) s 0 hne _, h.le⟩, ?_⟩
  exact fr_set _ _ _ ((fr_set _ _ _ (Fr.refl _ _)).trans hf2.nil)

theorem entsF_good (o : List Kn) (h40 : o.length = 40) : Goods (entsF 0 o) := by
  intro e he
  obtain ⟨t, _, h2, h3⟩ := entsF_mem he
  exact ⟨t, by omega, h3⟩
/-- an entry's index -/
def Idx (e : Ent) (t : Nat) : Prop := t < 40 ∧ e.key = keyB t
theorem keyB_inj {a b : Nat} (ha : a < 40) (hb : b < 40) (h : keyB a = keyB b) : a = b := by
  have h1 := (keyCmp ha hb).2
  apply h1.1
  rw [h]
  exact (keyCmp hb hb).2.2 rfl
theorem entsF_of {i : Nat} {o : List Kn} {e : Ent} (h : e ∈ entsF i o) : ∃ t k, o[t]? = some k ∧ k.state ≠ 0 ∧ e = ⟨keyB (i + t), k.blob, k.state == 2⟩ := by
  induction o generalizing i with
  | nil => simp [entsF] at h
  | cons k o ih =>
    simp only [entsF, List.mem_append] at h
    rcases h with h | h
    · unfold entOf at h
      split at h
      · simp at h
      · rename_i h0
        simp at h
        exact ⟨0, k, rfl, h0, by simpa using h⟩
    · obtain ⟨t, k', h1, h2, h3⟩ := ih h
      exact ⟨t + 1, k', by simpa using h1, h2, by rw [h3, show i + 1 + t = i + (t + 1) by omega]⟩
/-- the entries stand by rising index -/
theorem entsF_rise (i : Nat) (o : List Kn) (h40 : i + o.length ≤ 40) : (entsF i o).Pairwise fun x y => ∃ a b, a < b ∧ b < 40 ∧ x.key = keyB a ∧ y.key = keyB b := by
  induction o generalizing i with
  | nil => simp [entsF]
  | cons k o ih =>
    simp only [List.length_cons] at h40
    simp only [entsF]
    rw [List.pairwise_append]
    refine ⟨?_, ih (i + 1) (by omega), fun x hx y hy => ?_⟩
    · unfold entOf
      split <;> simp
    · obtain ⟨t, h1, h2, h3⟩ := entsF_mem hy
      unfold entOf at hx
      split at hx
      · simp at hx
      · simp at hx
        exact ⟨i, t, by omega, by omega, by rw [hx], h3⟩
/-- no key stands twice -/
theorem live_nodup (o : List Kn) (h40 : o.length = 40) : ((liveE (entsF 0 o)).map (·.key)).Nodup := by
  have h1 := entsF_rise 0 o (by omega)
  have h2 : (liveE (entsF 0 o)).Pairwise fun x y => ∃ a b, a < b ∧ b < 40 ∧ x.key = keyB a ∧ y.key = keyB b := h1.filter _
  rw [List.Nodup, List.pairwise_map]
  refine h2.imp ?_
  rintro x y ⟨a, b, hab, hb, ea, eb⟩ e
  rw [ea, eb] at e
  have := keyB_inj (by omega) hb e
  omega
/-- strictly ahead -/
def ltG (x y : Ent) : Prop := leG x y ∧ ¬ leG y x
theorem ltG_of {x y : Ent} (h : leG x y) (hne : x.key ≠ y.key) : ltG x y := by
  refine ⟨h, fun h2 => ?_⟩
  obtain ⟨⟨a, ha, ea⟩, ⟨b, hb, eb⟩, h1⟩ := h
  have h2 := h2.2.2
  rw [leE_iff ha hb ea eb] at h1
  rw [leE_iff hb ha eb ea] at h2
  have : a = b := by omega
  subst this
  exact hne (by rw [ea, eb])
/-- those that are told are strictly ahead of one another, and of the rest -/
theorem Told.strict {all out rest : List Ent} (t : Told all out rest) (hn : (all.map (·.key)).Nodup) : out.Pairwise ltG ∧ ∀ x ∈ out, ∀ y ∈ rest, ltG x y := by
  have hn2 : ((out ++ rest).map (·.key)).Nodup := (t.perm.map _).nodup_iff.2 hn
  rw [List.map_append, List.nodup_append] at hn2
  obtain ⟨h1, h2, h3⟩ := hn2
  refine ⟨?_, fun x hx y hy => ltG_of (t.first x hx y hy) (h3 _ (List.mem_map_of_mem hx) _ (List.mem_map_of_mem hy))⟩
  rw [List.Nodup, List.pairwise_map] at h1
  exact (t.sorted.and h1).imp fun ⟨a, b⟩ => ltG_of a b
end Go.Proofs.Ytmeplfpnpogalaa.kp
