/- The law Cornered. -/
import Derived.Test.YtdploccpobpjjaaYe
import Derived.Test.YtdploccpobpjjaaVh
import Derived.Test.YtdploccpobpjjaaSl
import Derived.Deep.QuietTactic
import Derived.BigQuiet
namespace Go.Proofs.Ytdploccpobpjjaa
open Go.RowKit Go.Shelf
set_option linter.unusedVariables false
set_option linter.unusedSimpArgs false

theorem clearK_B (l : List Int) (h : ordB l = true) : clearK l = clearB l := by rw [clearB_iff, clearK, h, Bool.true_and]
theorem clearA_form (l : List Int) : ∃ a b c d : Nat, clearA l = ia a b c d := by
  unfold clearA
  split
  · exact ⟨_, _, _, _, rfl⟩
  · exact ⟨0, 0, 0, 0, rfl⟩
theorem clear_n (A : Option Addr) (c n : Nat) (l : List Int) (hn : l.length = n) (ho : ordB l = true) (w : World) (hv : RdI w (.slice A n c) l) :
    Calls Try.prog 8 #[.slice A n c] w fun e w' => (∃ a b d f : Nat, e = .returned (.tuple #[.agg (ia a b d f), .bool (clearB l), .int .i64 0])) ∧ Keeps w w' := by
  subst hn
  have := clear_c A c l w hv
  rw [clearK_B l ho, ho, if_pos rfl] at this
  obtain ⟨a, b, d, f, hA⟩ := clearA_form l
  rw [hA] at this
  exact this.mono fun e w' h => ⟨⟨a, b, d, f, h.1⟩, h.2⟩
theorem oneIa (a b c d : Nat) : (ia a b c d).all (·.oneCell') = true := by simp [ia, Value.oneCell']
set_option maxHeartbeats 4000000 in
set_option maxRecDepth 100000 in
theorem law_cornered (n0 : Int) (v0 : Value) (l0 : List Int) (w : World) (hn0 : (Lit.int .i64 n0).wf = true) (hv : RdI w v0 l0) (hf : fits l0) (hcap : Cap v0) :
    Calls Try.prog 3 #[.int .i64 n0, v0] w fun e w' => e = .returned (.bool true) ∧ Keeps w w' := by
  have hta := tame_c n0 v0 l0 15 (by omega) (by omega) hn0 w hv hf
  clear hv hf hcap hn0
  go_enter Try.func3, Try.ntmps3
  go_upto_region 2 with (go_at_call 6; refine hta.mono ?_; rintro e w1 ⟨b, c, L, rfl, hLc, hrd1, ho, h15, hb1⟩)
  clear hta
  obtain ⟨p1, p2, p3, p4⟩ := ordB_parts L ho
  have Hlow0 : Hid (∀ k, k < L.length → 0 ≤ nth L k ∧ nth L k < 16) := Lib.hid (fun k hk => by
    have := (hasB_iff _ _).1 (List.all_eq_true.1 p3 _ (nth_mem L k hk))
    omega)
  have Hord : Hid (∀ q, ordB (corL L q) = true ∧ (corL L q).length = L.length + 1) := Lib.hid (fun q => ⟨corL_ord L q ho h15, corL_length L q⟩)
  have hco := Corners_c (some ⟨b, 0, none⟩) c L ho h15 w1 hrd1
  obtain ⟨n, hn⟩ : ∃ n, L.length = n := ⟨_, rfl⟩
  have hcl := fun x => clear_n (some ⟨b, 0, none⟩) c L.length L rfl ho x
  have Hcc : Hid (clearB L = false → (corsI L 4).length = 0) := Lib.hid (fun h => by
    rcases hC : corsI L 4 with _ | ⟨x, t⟩
    · rfl
    · obtain ⟨q, _, _, hq⟩ := corsI_mem (L := L) (q := 4) (x := x) (by rw [hC]; simp)
      rw [clear_corner L q hq] at h
      cases h)
  have hC4 := corsI_len L 4
  have Hm : Hid (∀ x ∈ corsI L 4, ∃ q : Nat, x = q ∧ q < 4 ∧ clearB (corL L q) = true) := Lib.hid (fun x hx => corsI_mem hx)
  have Hup := Lib.hid (corsI_up L 4)
  rw [hn] at p1 p2 hco hcl hrd1 h15 Hlow0 Hord
  have Hn := Lib.hid hn
  rw [hn]
  clear hn p3 p4 ho hLc
  generalize corsI L 4 = C at *
  go_upto_region 4 with (first
    | (go_at_call 7; refine hco.mono ?_; rintro e w2 ⟨v, rfl, hown, hb2⟩; have hrd2 := hrd1.below hb2; have hk2 := Keeps.next hb1 hb2)
    | (go_at_call 8; refine (hcl _ hrd2).mono ?_; rintro e w3 ⟨⟨a1, a2, a3, a4, rfl⟩, hb3⟩; have hrd3 := hrd2.below hb3; have hk3 := Keeps.next hk2 hb3)
    | (refine wpList_store_row rfl 27 _ _ rfl w3.heap.size (ia a1 a2 a3 a4) rfl rfl 27 (ia 0 0 0 0) (At.new w3 27 _) (sizeF _ _ _ _) rfl (oneIa _ _ _ _) ?_))
  obtain ⟨Y, hY⟩ : ∃ Y, (w3.alloc (.cells #[.int .i64 0, .int .i64 0, .int .i64 0, .int .i64 0] 27)).setRow w3.heap.size (ia a1 a2 a3 a4) = Y := ⟨_, rfl⟩
  have k3Y : Keeps w3 Y := by rw [← hY]; exact below_row (Keeps.alloc (Below.refl _ _) _) (Nat.le_refl _) _
  have hrdY := hrd3.below k3Y
  have kY := Keeps.next hk3 k3Y
  have hvY := (own_ints (own_later (own_later hown hb3) k3Y) (by unfold maxLen; omega)).rd
  rw [hY]
  clear hY hown hco hcl hrd1 hrd2 hrd3 hb1 hb2 hb3 hk2 hk3 k3Y
  generalize w3.heap.size = gx at *
  obtain ⟨Ac, cc, rfl, -, hcs⟩ := hvY
  have Hcs := Lib.hid hcs
  clear hcs
  by_cases hB : clearB L = true
  · rw [hB]
    clear hB Hcc
    go_wp2_with fail
    go_loopw [11] (fun i wr => ∃ k : Nat, k ≤ C.length ∧ i = .int .i64 k ∧ Keeps Y wr) (fun i _ => C.length - (intOf i).toNat)
    case atStart => exact ⟨0, Nat.zero_le _, rfl, Below.refl _ _⟩
    case round =>
      obtain ⟨k, hk, rfl, hb⟩ := hrel
      by_cases hlt : k < C.length
      · obtain ⟨bq, oq, u, rfl, hcell, rfl⟩ := Hcs.out k hlt
        obtain ⟨q, hq, hq4, hqc⟩ := Hm.out _ (nth_mem C k hlt)
        have hcellk := cell_keep hcell hb
        rw [hq] at hcellk
        have hrd := hrdY.below hb
        have hrc := fun x hx => rcornered_c b 0 c L n q hq4 Hn.out p1 h15 Hlow0.out x hx
        have hcl2 := fun A c x hx => clear_n A c (n + 1) (corL L q) (Hord.out q).2 (Hord.out q).1 x hx
        rw [hqc] at hcl2
        have hkI : (k : Int) < C.length := by omega
        have hd2 : decide ((q : Int) < 0) = false := by simp
        have hd3 : decide ((3 : Int) < (q : Int)) = false := by simp; omega
        by_cases h0 : k = 0
        · have hd : decide (0 < k) = false := by simp; omega
          clear hqc hcell hq h0
          go_wp2_with fail
          go_quiet (fail)
          have hkn := Keeps.next hb (below_drewN (n := nq) (Below.refl _ _))
          have hrdn := hrd.below (below_drewN (n := nq) (Below.refl _ _))
          have hcn := cell_keep hcellk (below_drewN (n := nq) (Below.refl _ _))
          go_wp2_with (first
            | (go_at_call 9; refine (hrc _ hrdn).mono ?_; rintro e w5 ⟨bb, c', rfl, hc', hrd5, hb5⟩; have hk5 := Keeps.next hkn hb5)
            | (go_at_call 8; refine (hcl2 _ _ _ hrd5).mono ?_; rintro e w6 ⟨⟨d1, d2, d3, d4, rfl⟩, hb6⟩; have hk6 := Keeps.next hk5 hb6)
            | (refine wpList_store_row rfl 27 _ _ rfl w6.heap.size (ia d1 d2 d3 d4) rfl rfl 27 (ia 0 0 0 0) (At.new w6 27 _) (sizeF _ _ _ _) rfl (oneIa _ _ _ _) ?_; have hk7 : Keeps Y ((w6.alloc (.cells (ia 0 0 0 0) 27)).setRow w6.heap.size (ia d1 d2 d3 d4)) := Keeps.next hk6 (below_row (Keeps.alloc (Below.refl _ _) _) (Nat.le_refl _) _)))
          go_roundw
          case rel => exact ⟨k + 1, by omega, by go_num, hk7⟩
          case measure => simp [intOf]; omega
        · obtain ⟨j, hj⟩ : ∃ j, k = j + 1 := ⟨k - 1, by omega⟩
          obtain ⟨bq', oq', u', e', hcell', rfl⟩ := Hcs.out j (by omega)
          cases e'
          obtain ⟨q', hq', _, _⟩ := Hm.out _ (nth_mem C j (by omega))
          have hup := Hup.out j (by omega)
          rw [← hj, hq, hq'] at hup
          have hcellj := cell_keep hcell' hb
          rw [hq'] at hcellj
          have hjI : (j : Int) < C.length := by omega
          have hd : decide (0 < k) = true := by simp; omega
          have hd4 : decide (q ≤ q') = false := by simp; omega
          have q1 : IntKind.i64.wrap ((k : Int) - 1) = (j : Int) := by rw [IntWalk.i64_in _ (by omega)]; omega
          have Hj := Lib.hid hj
          clear hqc hcell hq h0 hj hup hq' hcell'
          go_wp2_with fail
          go_quiet (fail)
          clear q1
          have hkn := Keeps.next hb (below_drewN (n := nq) (Below.refl _ _))
          have hrdn := hrd.below (below_drewN (n := nq) (Below.refl _ _))
          have hcn := cell_keep hcellk (below_drewN (n := nq) (Below.refl _ _))
          go_wp2_with (first
            | (go_at_call 9; refine (hrc _ hrdn).mono ?_; rintro e w5 ⟨bb, c', rfl, hc', hrd5, hb5⟩; have hk5 := Keeps.next hkn hb5)
            | (go_at_call 8; refine (hcl2 _ _ _ hrd5).mono ?_; rintro e w6 ⟨⟨d1, d2, d3, d4, rfl⟩, hb6⟩; have hk6 := Keeps.next hk5 hb6)
            | (refine wpList_store_row rfl 27 _ _ rfl w6.heap.size (ia d1 d2 d3 d4) rfl rfl 27 (ia 0 0 0 0) (At.new w6 27 _) (sizeF _ _ _ _) rfl (oneIa _ _ _ _) ?_; have hk7 : Keeps Y ((w6.alloc (.cells (ia 0 0 0 0) 27)).setRow w6.heap.size (ia d1 d2 d3 d4)) := Keeps.next hk6 (below_row (Keeps.alloc (Below.refl _ _) _) (Nat.le_refl _) _)))
          go_roundw
          case rel => exact ⟨k + 1, by omega, by go_num, hk7⟩
          case measure => simp [intOf]; omega
      · go_wp2_with (go_at_call 10; refine (awake_c _).mono ?_; rintro e w5 ⟨rfl, hb5⟩)
        go_ret
        exact ⟨rfl, Keeps.next (Keeps.next kY hb) hb5⟩
  · have hB' : clearB L = false := by simpa using hB
    have hC0 := Hcc.out hB'
    rw [hB', hC0]
    have HC0 := Lib.hid hC0
    clear hB hB' Hcc hC0 hC4
    go_wp2_with fail
    go_loopw [11] (fun i wr => i = .int .i64 0 ∧ Keeps Y wr) (fun i _ => 0)
    case atStart => exact ⟨rfl, Below.refl _ _⟩
    case round =>
      obtain ⟨rfl, hb⟩ := hrel
      go_wp2_with (go_at_call 10; refine (awake_c _).mono ?_; rintro e w5 ⟨rfl, hb5⟩)
      go_ret
      exact ⟨rfl, Keeps.next (Keeps.next kY hb) hb5⟩
end Go.Proofs.Ytdploccpobpjjaa
