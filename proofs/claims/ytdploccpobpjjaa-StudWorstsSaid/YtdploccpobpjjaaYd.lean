/- The walk of Corners. -/
import Derived.Test.YtdploccpobpjjaaYc
namespace Go.Proofs.Ytdploccpobpjjaa
open Go.RowKit Go.Shelf
set_option linter.unusedVariables false
set_option linter.unusedSimpArgs false

/-- The corners before q at which a stud can be added. -/
def corsI (L : List Int) (q : Nat) : List Int := ((List.range q).filter fun c => clearB (corL L c)).map fun (c : Nat) => (c : Int)
theorem corsI_yes (L : List Int) (q : Nat) (h : clearB (corL L q) = true) : corsI L (q + 1) = corsI L q ++ [(q : Int)] := by
  simp [corsI, List.range_succ, List.filter_append, h]
theorem corsI_no (L : List Int) (q : Nat) (h : clearB (corL L q) = false) : corsI L (q + 1) = corsI L q := by
  simp [corsI, List.range_succ, List.filter_append, h]
theorem corsI_len (L : List Int) (q : Nat) : (corsI L q).length ≤ q := by
  have := List.length_filter_le (fun c => clearB (corL L c)) (List.range q)
  simpa [corsI] using this
theorem corsI_mem {L : List Int} {q : Nat} {x : Int} (h : x ∈ corsI L q) : ∃ c : Nat, x = c ∧ c < q ∧ clearB (corL L c) = true := by
  unfold corsI at h
  obtain ⟨c, hc, rfl⟩ := List.mem_map.1 h
  rw [List.mem_filter] at hc
  exact ⟨c, rfl, List.mem_range.1 hc.1, hc.2⟩
theorem corsI_up (L : List Int) (q i : Nat) (h : i + 1 < (corsI L q).length) : nth (corsI L q) i < nth (corsI L q) (i + 1) := by
  have hp : (corsI L q).Pairwise (· < ·) := by
    unfold corsI
    rw [List.pairwise_map]
    exact ((List.pairwise_lt_range (n := q)).filter _).imp (fun h => by omega)
  have := List.pairwise_iff_getElem.1 hp i (i + 1) (by omega) h (by omega)
  simpa [nth, h, show i < (corsI L q).length by omega] using this
theorem isClear_n (A : Option Addr) (c n : Nat) (l : List Int) (hn : l.length = n) (hl : low l) (w : World) (hcap : n ≤ c) (hv : RdI w (.slice A n c) l) :
    Calls Try.prog 21 #[.slice A n c] w fun e w' => e = .returned (.bool (clearB l)) ∧ Keeps w w' := by
  subst hn
  exact isClear_c A c l hl w hcap hv
set_option maxHeartbeats 4000000 in
set_option maxRecDepth 100000 in
theorem Corners_c (A : Option Addr) (c0 : Nat) (L : List Int) (ho : ordB L = true) (h15 : L.length ≤ 15) (w : World) (hv : RdI w (.slice A L.length c0) L) :
    Calls Try.prog 7 #[.slice A L.length c0] w fun e w' => ∃ v, e = .returned (.tuple #[v, .int .i64 0]) ∧ w'.ownsRow w.heap.size 3 1 v (corsI L 4).length ((corsI L 4).map (Value.int .i64)) ∧ Keeps w w' := by
  have hor := isOrder_c (.slice A L.length c0) L w hv
  obtain ⟨i0, hi, hz0, hz1, hz2⟩ := info_parts infoI
  obtain ⟨h1, h2, h3, h4⟩ := ordB_parts L ho
  have Hlow := Lib.hid (fun q => low_all (corL L q) (L.length + 1) (by omega) (by
    have := (ordB_parts _ (corL_ord L q ho h15)).2.2.1
    rwa [corL_length] at this))
  have Hlow0 : Hid (∀ k, k < L.length → 0 ≤ nth L k ∧ nth L k < 16) := Lib.hid (fun k hk => by
    have := (hasB_iff _ _).1 (List.all_eq_true.1 h3 _ (nth_mem L k hk))
    omega)
  rw [ho] at hor
  have Hcl := Lib.hid (fun q => corL_length L q)
  obtain ⟨n, hn⟩ : ∃ n, L.length = n := ⟨_, rfl⟩
  rw [hn] at h1 h2 hor hv h15 ⊢
  rw [hn] at Hlow0 Hcl
  have Hn := Lib.hid hn
  have hne : ((n : Int) == 16) = false := by simp; omega
  clear hn h3 h4 ho
  go_enter Try.func7, Try.ntmps7
  go_wp2_with (go_at_call 20; refine hor.mono ?_; rintro e w1 ⟨rfl, hb1⟩)
  go_loopw [4, 14] (fun s i wr => ∃ q : Nat, q ≤ 4 ∧ i = .int .i64 q ∧ wr.ownsRow w.heap.size 3 1 s (corsI L q).length ((corsI L q).map (Value.int .i64)) ∧ Keeps w wr) (fun _ i _ => 4 - (intOf i).toNat)
  case atStart => exact ⟨0, by omega, rfl, World.ownsRow_nil _ _ _ _, hb1⟩
  case round =>
    obtain ⟨q, hq, rfl, hown, hb⟩ := hrel
    by_cases hlt : q < 4
    · have hwc := withCorner_c (.slice A n c0) L n q hlt Hn.out h1 h15 Hlow0.out wr (hv.below hb)
      have hic := fun A c x => isClear_n A c (n + 1) (corL L q) (Hcl.out q) (Hlow.out q) x
      have hyes := corsI_yes L q
      have hno := corsI_no L q
      have hlen := corsI_len L q
      have hqI : (q : Int) < 4 := by omega
      clear hor
      by_cases hB : clearB (corL L q) = true
      · rw [hB] at hic
        have Hy := Lib.hid (hyes hB)
        clear hB hyes hno
        generalize corsI L q = C at *
        go_wp2_with (first
          | (go_at_call 22; refine hwc.mono ?_; rintro e w2 ⟨b, c', rfl, hc', hrd, hk2⟩)
          | (go_at_call 21; refine (hic _ _ _ hc' hrd).mono ?_; rintro e w3 ⟨rfl, hk3⟩; have hown3 := own_later (own_later hown hk2) hk3)
          | (at_builtin; refine wpList_append_own _ rfl _ _ 22 rfl w.heap.size 3 i0 _ 1 8 Try.underlying22 hi hz0 hz1 hz2 rfl (by decide) _ C.length _ rfl (own_later hown3 (Keeps.alloc (Below.refl _ _) _)) ⟨w3.heap.size, 0, none⟩ 1 1 [.int .i64 q] rfl rfl app_cells (fun u hu => by simp only [List.mem_singleton] at hu; subst hu; rfl) (by unfold maxLen; omega) (by omega) (by simp only [World.size_alloc]; have := hb.size; have := hk2.size; have := hk3.size; omega) ?_; intro v' w4 hown4 hgrow4 _))
        go_roundw
        case rel => exact ⟨q + 1, by omega, by go_num, by rw [Hy.out, List.map_append, List.length_append]; exact hown4, (Keeps.next (Keeps.next (Keeps.next hb hk2) hk3) (Keeps.alloc (Below.refl _ _) _)).grown hgrow4 (by simp only [World.size_alloc]; have := hb.size; have := hk2.size; have := hk3.size; omega) (own_base hown3)⟩
        case measure => simp [intOf]; omega
      · have hB' : clearB (corL L q) = false := by simpa using hB
        rw [hB'] at hic
        have Hy := Lib.hid (hno hB')
        clear hB hB' hyes hno
        go_wp2_with (first
          | (go_at_call 22; refine hwc.mono ?_; rintro e w2 ⟨b, c', rfl, hc', hrd, hk2⟩)
          | (go_at_call 21; refine (hic _ _ _ hc' hrd).mono ?_; rintro e w3 ⟨rfl, hk3⟩; have hown3 := own_later (own_later hown hk2) hk3))
        go_roundw
        case rel => exact ⟨q + 1, by omega, by go_num, by rw [Hy.out]; exact hown3, Keeps.next (Keeps.next hb hk2) hk3⟩
        case measure => simp [intOf]; omega
    · obtain rfl : q = 4 := by omega
      go_wp2_with fail
      go_ret2
      exact ⟨_, rfl, hown, hb⟩
end Go.Proofs.Ytdploccpobpjjaa
