/- awake answers true: the walk. -/
import Derived.Test.YtikedhkibdeheaaHc
namespace Go.Proofs.Ytikedhkibdeheaa
open Go.RowKit

theorem r3_rd (w : World) : RdS (w.alloc (.cells #[.string ⟨#[97, 97]⟩, .string ⟨#[98, 98]⟩, .string ⟨#[97, 98, 97, 98]⟩] 9)) (.slice (some ⟨w.heap.size, 0, none⟩) 3 3) r3 := three_rd w _ _ _
theorem sz3 : szOk r3 := by
  intro s hs; simp only [r3, List.mem_cons, List.not_mem_nil, or_false] at hs
  rcases hs with rfl | rfl | rfl <;> (unfold maxLen; decide)
theorem sz2 : szOk r2 := by
  intro s hs; simp only [r2, List.mem_cons, List.not_mem_nil, or_false] at hs
  rcases hs with rfl | rfl <;> (unfold maxLen; decide)

theorem r2_rd (w : World) : RdS (w.alloc (.cells #[.string ⟨#[97, 97, 97, 97]⟩, .string ⟨#[97, 97, 98, 98]⟩] 9)) (.slice (some ⟨w.heap.size, 0, none⟩) 2 2) r2 := by
  refine ⟨some ⟨w.heap.size, 0, none⟩, 2, rfl, by unfold maxLen; decide, fun k hk => ?_⟩
  have hk2 : k < 2 := hk
  have hc := (At.new w 9 #[.string ⟨#[97, 97, 97, 97]⟩, .string ⟨#[97, 97, 98, 98]⟩]).cell (0 + k)
  obtain rfl | rfl : k = 0 ∨ k = 1 := by omega
  · exact ⟨w.heap.size, 0, _, rfl, hc, _, rfl, rfl⟩
  · exact ⟨w.heap.size, 0, _, rfl, hc, _, rfl, rfl⟩
theorem two_rd (w : World) (a b : Int) : RdI (w.alloc (.cells #[.int .i64 a, .int .i64 b] 3)) (.slice (some ⟨w.heap.size, 0, none⟩) 2 2) [a, b] := by
  refine ⟨some ⟨w.heap.size, 0, none⟩, 2, rfl, by unfold maxLen; simp, fun k hk => ?_⟩
  have hk2 : k < 2 := hk
  have hc := (At.new w 3 #[.int .i64 a, .int .i64 b]).cell (0 + k)
  obtain rfl | rfl : k = 0 ∨ k = 1 := by omega
  · exact ⟨w.heap.size, 0, _, rfl, hc, rfl⟩
  · exact ⟨w.heap.size, 0, _, rfl, hc, rfl⟩
theorem tab_rd (w : World) (a b c d : Int) : RdT (((w.alloc (.cells #[.int .i64 a, .int .i64 b] 3)).alloc (.cells #[.int .i64 c, .int .i64 d] 3)).alloc (.cells #[.slice (some ⟨w.heap.size, 0, none⟩) 2 2, .slice (some ⟨w.heap.size + 1, 0, none⟩) 2 2] 35))
    (.slice (some ⟨w.heap.size + 1 + 1, 0, none⟩) 2 2) [[a, b], [c, d]] := by
  have h1 := ((two_rd w a b).below (Keeps.alloc (Below.refl _ _) (.cells #[.int .i64 c, .int .i64 d] 3))).below (Keeps.alloc (Below.refl _ _) (.cells #[.slice (some ⟨w.heap.size, 0, none⟩) 2 2, .slice (some ⟨w.heap.size + 1, 0, none⟩) 2 2] 35))
  have h2 := (two_rd (w.alloc (.cells #[.int .i64 a, .int .i64 b] 3)) c d).below (Keeps.alloc (Below.refl _ _) (.cells #[.slice (some ⟨w.heap.size, 0, none⟩) 2 2, .slice (some ⟨w.heap.size + 1, 0, none⟩) 2 2] 35))
  rw [show (w.alloc (.cells #[.int .i64 a, .int .i64 b] 3)).heap.size = w.heap.size + 1 by simp] at h2
  refine ⟨some ⟨w.heap.size + 1 + 1, 0, none⟩, 2, rfl, by unfold maxLen; simp, fun k hk => ?_⟩
  have hk2 : k < 2 := hk
  have hc := (At.new' ((w.alloc (.cells #[.int .i64 a, .int .i64 b] 3)).alloc (.cells #[.int .i64 c, .int .i64 d] 3)) (w.heap.size + 1 + 1) (by simp) 35 #[.slice (some ⟨w.heap.size, 0, none⟩) 2 2, .slice (some ⟨w.heap.size + 1, 0, none⟩) 2 2]).cell (0 + k)
  obtain rfl | rfl : k = 0 ∨ k = 1 := by omega
  · exact ⟨w.heap.size + 1 + 1, 0, _, rfl, hc, _, rfl, h1⟩
  · exact ⟨w.heap.size + 1 + 1, 0, _, rfl, hc, _, rfl, h2⟩
theorem rdT_of {Q : Nat → Prop} {w : World} {v : Value} {t : List (List Int)} (h : RdTB Q w v t) : RdT w v t := RdB.rd h (fun _ _ ⟨l, hl, hr⟩ => ⟨l, hl, RdB.rd hr (fun _ _ h => h)⟩)
theorem first_tab {w : World} {Q : Nat → Prop} {vt : Value} (h : RdLB Q w vt (tabsN 2 2 r3)) : ∃ b off A c c', vt = .slice (some ⟨b, off, none⟩) 3 c ∧ w.cell? ⟨b, off, none⟩ = some (.slice A 2 c') ∧ RdT w (.slice A 2 c') [[0, 1], [1, 0]] := by
  obtain ⟨A, c, rfl, hm, hcl⟩ := h
  rw [ev_tabs.1] at hcl ⊢
  obtain ⟨b, off, u, rfl, _, hc, t, ht, hr⟩ := hcl 0 (by omega)
  rw [ev_tabs.2] at ht
  cases ht
  have hr' := rdT_of hr
  obtain ⟨A', c', rfl, _, _⟩ := id hr'
  exact ⟨b, off, A', c, c', rfl, hc, hr'⟩

def r4 : List ByteArray := [⟨#[98]⟩, ⟨#[97, 97]⟩, ⟨#[97, 98, 65]⟩]
theorem same_yes (v v' : Value) (s : List (List Int)) (w : World) (ha : RdT w v s) (hb : RdT w v' s) :
    Calls Try.prog 22 #[v, v'] w fun e w' => e = .returned (.bool true) ∧ Keeps w w' :=
  (same_c v v' s s w ha hb).mono fun _ _ ⟨h, m, hm⟩ => ⟨by rw [h]; simp, by rw [hm]; exact keeps_drewN _ _⟩
theorem texts_yes (v v' : Value) (s : List ByteArray) (w : World) (ha : RdS w v s) (hb : RdS w v' s) :
    Calls Try.prog 28 #[v, v'] w fun e w' => e = .returned (.bool true) ∧ Keeps w w' :=
  (texts_c v v' s s w ha hb).mono fun _ _ ⟨h, m, hm⟩ => ⟨by rw [h]; simp, by rw [hm]; exact keeps_drewN _ _⟩
theorem ints_yes (v v' : Value) (s : List Int) (w : World) (ha : RdI w v s) (hb : RdI w v' s) :
    Calls Try.prog 38 #[v, v'] w fun e w' => e = .returned (.bool true) ∧ Keeps w w' :=
  (ints_c v v' s s w ha hb).mono fun _ _ ⟨h, m, hm⟩ => ⟨by rw [h]; simp, by rw [hm]; exact keeps_drewN _ _⟩

set_option maxHeartbeats 2000000 in
set_option maxRecDepth 100000 in
theorem awake_c (w : World) : Calls Try.prog 13 #[] w fun e w' => e = .returned (.bool true) ∧ Keeps w w' := by
  have htab := fun v x hx => tables_c 2 2 v r3 sz3 x hx
  have hcnt := fun v x hx => count_c 2 4 v r3 sz3 x hx
  rw [ev_good2] at htab
  rw [ev_good4, ev_count] at hcnt
  go_enter Try.func13, Try.ntmps13
  have hv0 := fun o => (r3_rd w).below (Keeps.alloc (Below.refl _ _) o)
  have hgen := fun x v hx => generators_c v [[1, 0], [0, 1]] x hx
  have hfac := fun x v hx hc => factors_c 2 v r2 sz2 x hx hc
  rw [ev_gensB, ev_gens] at hgen
  rw [ev_group, ev_fac.1, ev_fac.2] at hfac
  go_wp2_with (
    first
    | (go_at_call 19; refine (htab _ _ (hv0 _)).mono ?_; rintro e w1 ⟨vt, rfl, hl, hb1⟩; have hv1 := (hv0 _).below hb1; have hgr := (At.new2 w (.cells #[.string ⟨#[97, 97]⟩, .string ⟨#[98, 98]⟩, .string ⟨#[97, 98, 97, 98]⟩] 9) 25 #[.int .i64 2, .slice (some ⟨w.heap.size, 0, none⟩) 3 3]).later hb1; obtain ⟨bl, ol, Al, cl, cl', rfl, hcl, hrl⟩ := first_tab hl; have hk1 : Keeps w w1 := Keeps.next (Keeps.alloc (Keeps.alloc (Below.refl _ _) _) _) hb1; clear htab hl)
    | (refine wpList_load_row rfl 25 _ rfl (w.heap.size + 1) rfl 25 _ (0, 0) _ hgr Try.underlying25 rfl (sizeG _ _) ?_)
    | (go_at_call 12; refine (hcnt _ _ hv1).mono ?_; rintro e w2 ⟨rfl, hb2⟩; have hcl2 := cell_keep hcl hb2; have hrl2 := hrl.below hb2; have hk2 := Keeps.next hk1 hb2; clear hcnt hcl hrl)
    | (go_at_call 25; refine (hgen _ _ (tab_rd w2 1 0 0 1)).mono ?_; rintro e w3 ⟨u3, rfl, hr3, hb3⟩; have hb23 : Keeps w2 w3 := Keeps.next (Keeps.alloc (Keeps.alloc (Keeps.alloc (Below.refl _ _) _) _) _) hb3; have hcl3 := cell_keep hcl2 hb23; have hrl3 := hrl2.below hb23; have hk3 := Keeps.next hk2 hb23; clear hgen hcl2 hrl2)
    | (go_at_call 15; refine (hfac _ _ (r2_rd w3) (show 2 ≤ 2 by omega)).mono ?_; rintro e w4 ⟨u4, rfl, hr4, hb4⟩; have hb34 : Keeps w3 w4 := Keeps.next (Keeps.alloc (Below.refl _ _) _) hb4; have hcl4 := cell_keep hcl3 hb34; have hrl4 := hrl3.below hb34; have hk4 := Keeps.next hk3 hb34; have hs4 := (RdB.rd hr3 (fun _ _ h => h) : RdS w3 u3 r4).below hb34; have hi4 : RdI w4 u4 [2, 4] := RdB.rd hr4 (fun _ _ h => h); clear hfac hcl3 hrl3 hr3 hr4)
    | (go_at_call 22; refine (same_yes _ _ [[0, 1], [1, 0]] _ (hrl4.below (Keeps.alloc (Keeps.alloc (Keeps.alloc (Below.refl _ _) _) _) _)) (tab_rd w4 0 1 1 0)).mono ?_; rintro e w5 ⟨rfl, hb5⟩; have hb45 : Keeps w4 w5 := Keeps.next (Keeps.alloc (Keeps.alloc (Keeps.alloc (Below.refl _ _) _) _) _) hb5; have hs5 := hs4.below hb45; have hi5 := hi4.below hb45; have hk5 := Keeps.next hk4 hb45; clear hs4 hi4)
    | (go_at_call 28; refine (texts_yes _ _ r4 _ (hs5.below (Keeps.alloc (Below.refl _ _) _)) (three_rd w5 _ _ _)).mono ?_; rintro e w6 ⟨rfl, hb6⟩; have hb56 : Keeps w5 w6 := Keeps.next (Keeps.alloc (Below.refl _ _) _) hb6; have hi6 := hi5.below hb56; have hk6 := Keeps.next hk5 hb56; clear hs5 hi5)
    | (go_at_call 38; refine (ints_yes _ _ [2, 4] _ (hi6.below (Keeps.alloc (Below.refl _ _) _)) (two_rd w6 2 4)).mono ?_; rintro e w7 ⟨rfl, hb7⟩; have hk7 := Keeps.next hk6 (Keeps.next (Keeps.alloc (Below.refl _ _) _) hb7)))
  go_ret
  exact ⟨rfl, hk7⟩
end Go.Proofs.Ytikedhkibdeheaa
