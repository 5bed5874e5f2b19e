/- Corners at other arguments; the walk of the reference's Corners. -/
import Derived.Test.YtdploccpobpjjaaYe
namespace Go.Proofs.Ytdploccpobpjjaa
open Go.RowKit Go.Shelf
set_option linter.unusedVariables false
set_option linter.unusedSimpArgs false

theorem Corners_no (A : Option Addr) (n c : Nat) (l : List Int) (ho : ordB l = false) (w : World) (hv : RdI w (.slice A n c) l) :
    Calls Try.prog 7 #[.slice A n c] w fun e w' => e = .returned (.tuple #[.slice none 0 0, .int .i64 2]) ∧ Keeps w w' := by
  have hor := isOrder_c (.slice A n c) l w hv
  rw [ho] at hor
  go_enter Try.func7, Try.ntmps7
  go_wp2_with (go_at_call 20; refine hor.mono ?_; rintro e w1 ⟨rfl, hb1⟩)
  go_ret2
  exact ⟨rfl, hb1⟩
theorem Corners_16 (A : Option Addr) (c : Nat) (l : List Int) (ho : ordB l = true) (w : World) (hv : RdI w (.slice A 16 c) l) :
    Calls Try.prog 7 #[.slice A 16 c] w fun e w' => e = .returned (.tuple #[.slice none 0 0, .int .i64 2]) ∧ Keeps w w' := by
  have hor := isOrder_c (.slice A 16 c) l w hv
  rw [ho] at hor
  go_enter Try.func7, Try.ntmps7
  go_wp2_with (go_at_call 20; refine hor.mono ?_; rintro e w1 ⟨rfl, hb1⟩)
  go_ret2
  exact ⟨rfl, hb1⟩
theorem risclear_n (A : Option Addr) (c n : Nat) (l : List Int) (hn : l.length = n) (ho : ordB l = true) (w : World) (hv : RdI w (.slice A n c) l) :
    Calls Try.prog 28 #[.slice A n c] w fun e w' => e = .returned (.bool (clearB l)) ∧ Keeps w w' := by
  subst hn
  exact risclear_c A c l ho w hv
set_option maxHeartbeats 4000000 in
set_option maxRecDepth 100000 in
theorem rcorners_c (b0 o0 c0 : Nat) (L : List Int) (ho : ordB L = true) (h15 : L.length ≤ 15) (w : World) (hv : RdI w (.slice (some ⟨b0, o0, none⟩) L.length c0) L) :
    Calls Try.prog 16 #[.slice (some ⟨b0, o0, none⟩) L.length c0] w fun e w' => ∃ v, e = .returned v ∧ w'.ownsRow w.heap.size 3 1 v (corsI L 4).length ((corsI L 4).map (Value.int .i64)) ∧ Keeps w w' := by
  obtain ⟨i0, hi, hz0, hz1, hz2⟩ := info_parts infoI
  obtain ⟨h1, h2, h3, h4⟩ := ordB_parts L ho
  have Hord : Hid (∀ q, ordB (corL L q) = true ∧ (corL L q).length = L.length + 1) := Lib.hid (fun q => ⟨corL_ord L q ho h15, corL_length L q⟩)
  have Hlow0 : Hid (∀ k, k < L.length → 0 ≤ nth L k ∧ nth L k < 16) := Lib.hid (fun k hk => by
    have := (hasB_iff _ _).1 (List.all_eq_true.1 h3 _ (nth_mem L k hk))
    omega)
  obtain ⟨n, hn⟩ : ∃ n, L.length = n := ⟨_, rfl⟩
  rw [hn] at h1 h2 hv h15 Hlow0 Hord ⊢
  have Hn := Lib.hid hn
  clear hn h3 h4 ho
  go_enter Try.func16, Try.ntmps16
  go_wp2_with fail
  go_loopw [3, 4] (fun s i wr => ∃ q : Nat, q ≤ 4 ∧ i = .int .i64 q ∧ wr.ownsRow w.heap.size 3 1 s (corsI L q).length ((corsI L q).map (Value.int .i64)) ∧ Keeps w wr) (fun _ i _ => 4 - (intOf i).toNat)
  case atStart => exact ⟨0, by omega, rfl, World.ownsRow_nil _ _ _ _, Below.refl _ _⟩
  case round =>
    obtain ⟨q, hq, rfl, hown, hb⟩ := hrel
    by_cases hlt : q < 4
    · have hwc := rcornered_c b0 o0 c0 L n q hlt Hn.out h1 h15 Hlow0.out wr (hv.below hb)
      have hic := fun A c x => risclear_n A c (n + 1) (corL L q) (Hord.out q).2 (Hord.out q).1 x
      have hyes := corsI_yes L q
      have hno := corsI_no L q
      have hlen := corsI_len L q
      have hqI : (q : Int) < 4 := by omega
      by_cases hB : clearB (corL L q) = true
      · rw [hB] at hic
        have Hy := Lib.hid (hyes hB)
        clear hB hyes hno
        generalize corsI L q = C at *
        go_wp2_with (first
          | (go_at_call 9; refine hwc.mono ?_; rintro e w2 ⟨b, c', rfl, hc', hrd, hk2⟩)
          | (go_at_call 28; refine (hic _ _ _ hrd).mono ?_; rintro e w3 ⟨rfl, hk3⟩; have hown3 := own_later (own_later hown hk2) hk3)
          | (at_builtin; refine wpList_append_own _ rfl _ _ 22 rfl w.heap.size 3 i0 _ 1 8 Try.underlying22 hi hz0 hz1 hz2 rfl (by decide) _ C.length _ rfl (own_later hown3 (Keeps.alloc (Below.refl _ _) _)) ⟨w3.heap.size, 0, none⟩ 1 1 [.int .i64 q] rfl rfl app_cells (fun u hu => by simp only [List.mem_singleton] at hu; subst hu; rfl) (by unfold maxLen; omega) (by omega) (by simp only [World.size_alloc]; have := hb.size; have := hk2.size; have := hk3.size; omega) ?_; intro v' w4 hown4 hgrow4 _))
        go_roundw
        case rel => exact ⟨q + 1, by omega, by go_num, by rw [Hy.out, List.map_append, List.length_append]; exact hown4, (Keeps.next (Keeps.next (Keeps.next hb hk2) hk3) (Keeps.alloc (Below.refl _ _) _)).grown hgrow4 (by simp only [World.size_alloc]; have := hb.size; have := hk2.size; have := hk3.size; omega) (own_base hown3)⟩
        case measure => simp [intOf]; omega
      · have hB' : clearB (corL L q) = false := by simpa using hB
        rw [hB'] at hic
        have Hy := Lib.hid (hno hB')
        clear hB hB' hyes hno
        go_wp2_with (first
          | (go_at_call 9; refine hwc.mono ?_; rintro e w2 ⟨b, c', rfl, hc', hrd, hk2⟩)
          | (go_at_call 28; refine (hic _ _ _ hrd).mono ?_; rintro e w3 ⟨rfl, hk3⟩; have hown3 := own_later (own_later hown hk2) hk3))
        go_roundw
        case rel => exact ⟨q + 1, by omega, by go_num, by rw [Hy.out]; exact hown3, Keeps.next (Keeps.next hb hk2) hk3⟩
        case measure => simp [intOf]; omega
    · obtain rfl : q = 4 := by omega
      go_wp2_with fail
      go_ret
      exact ⟨_, rfl, hown, hb⟩
end Go.Proofs.Ytdploccpobpjjaa
