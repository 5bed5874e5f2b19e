/- The walk of the reference's Worst. -/
import Derived.Test.YtdploccpobpjjaaYh
import Derived.Test.YtdploccpobpjjaaVg
import Derived.Test.YtdploccpobpjjaaUa
namespace Go.Proofs.Ytdploccpobpjjaa
open Go.RowKit Go.Shelf
set_option linter.unusedVariables false
set_option linter.unusedSimpArgs false

set_option maxHeartbeats 1000000 in
theorem worst_no (A : Option Addr) (n c : Nat) (l : List Int) (ho : ordB l = false) (w : World) (hv : RdI w (.slice A n c) l) :
    Calls Try.prog 12 #[.slice A n c] w fun e w' => e = .returned (.tuple #[.int .i64 0, .agg (ic [0, 0]), .int .i64 2]) ∧ Keeps w w' := by
  have hor := fun x hx => isOrder_c (.slice A n c) l x hx
  rw [ho] at hor
  go_enter Try.func12, Try.ntmps12
  go_wp2_with (first
    | (go_at_call 20; refine (hor _ (hv.below (Keeps.alloc (Below.refl _ _) _))).mono ?_; rintro e w1 ⟨rfl, hb1⟩; have a1 := (At.new w 34 (ic [0, 0])).later hb1)
    | (refine wpList_store_row rfl 34 _ _ rfl w.heap.size (ic [0, 0]) rfl rfl 34 (ic [0, 0]) a1 (size2 _ _) rfl (ic_one _) ?_))
  refine bodyPost_ret (results_mix Try.results12 _ _ w.heap.size _ _ _ rfl (a1.row (ic [0, 0])) Try.underlying34 rfl (size2 _ _)) rfl ⟨rfl, below_row (Keeps.next (Keeps.alloc (Below.refl _ _) _) hb1) (Nat.le_refl _) _⟩
def rV (g : Int → Int → Nat) (n : Nat) (u : Int) (s : Nat × Int × Int) : Nat → Nat × Int × Int
  | 0 => s
  | k + 1 => wstep g (rV g n u s k) u (-(n : Int) + k)
def rU (g : Int → Int → Nat) (n : Nat) : Nat → Nat × Int × Int
  | 0 => (0, 0, 0)
  | k + 1 => rV g n (1 + k) (rU g n k) (2 * n + 1)
theorem results_mix2 {P : Program} {fn : Func} {p u : Tmp} {t1 : TypeId} (hr : fn.results = #[.tmp u, .cell p t1]) (tmps : Array Value) (w : World) (g1 : Nat) (s1 : TypeId) (cs : Array Value) (d : TypeDesc)
    (hp : tmps.getD p undef = .pointer (some ⟨g1, 0, none⟩)) (hg : At w g1 s1 cs) (hd : P.underlying t1 = some d) (hdd : (match d with | .struct _ | .array _ _ => true | _ => false) = true) (hi : (P.info? t1).map (·.size) = some cs.size) :
    (results fn tmps).run P w = .ok (.tuple #[tmps.getD u undef, .agg cs]) w := by
  have hp' : tmps[p]?.getD undef = .pointer (some ⟨g1, 0, none⟩) := by simpa using hp
  have e1 : (loadVar t1 ⟨g1, 0, none⟩).run P w = .ok (.agg cs) w := run_loadVar_row w g1 s1 t1 cs (0, 0) d hg hd hdd hi
  simp [results, hr, hp', asAddr, Sem.run_bind, e1, Result.andThen]
set_option maxHeartbeats 4000000 in
set_option maxRecDepth 100000 in
theorem rworst_c (A : Option Addr) (c : Nat) (l : List Int) (ho : ordB l = true) (w : World) (hv : RdI w (.slice A l.length c) l) :
    Calls Try.prog 14 #[.slice A l.length c] w fun e w' => e = .returned (.tuple #[.int .i64 ((rU (rmeetN l) l.length (l.length - 1)).1 : Nat), .agg (ic [(rU (rmeetN l) l.length (l.length - 1)).2.1, (rU (rmeetN l) l.length (l.length - 1)).2.2])]) ∧ Keeps w w' := by
  have hrm := fun u v x hx => rmeeting_c A c l ho u v x hx
  obtain ⟨ho1, ho2, ho3, ho4⟩ := ordB_parts l ho
  obtain ⟨n, hn⟩ : ∃ n, l.length = n := ⟨_, rfl⟩
  rw [hn] at ho1 ho2 hrm hv ⊢
  have Hle : Hid (∀ u v, rmeetN l u v ≤ n) := Lib.hid (fun u v => by
    unfold rmeetN
    split
    · omega
    · have := rmI_le l u v l.length; omega)
  generalize rmeetN l = g at *
  have HN := Lib.hid hn
  clear ho ho3 ho4 hn
  go_enter Try.func14, Try.ntmps14
  go_wp2_with (refine wpList_store_row rfl 34 _ _ rfl (w.heap.size + 1) (ic [0, 0]) rfl rfl 34 (ic [0, 0]) (At.new2 w _ _ _) (size2 _ _) rfl (ic_one _) ?_)
  obtain ⟨V, hV⟩ : ∃ V, (((w.alloc (.cells #[.int .i64 0, .int .i64 0] 34)).alloc (.cells #[.int .i64 0, .int .i64 0] 34)).setRow (w.heap.size + 1) (ic [0, 0])) = V := ⟨_, rfl⟩
  have vS : At V (w.heap.size + 1) 34 (ic [0, 0]) := by rw [← hV]; exact (At.new2 w _ _ _).row _
  have vR : At V w.heap.size 34 (ic [0, 0]) := by rw [← hV]; exact ((At.new w _ _).alloc _).rowfar (by simp) _
  have kV : Keeps w V := by rw [← hV]; exact below_row (Keeps.alloc (Keeps.alloc (Below.refl _ _) _) _) (by omega) _
  have hvK := hv
  rw [show (((w.alloc (.cells #[.int .i64 0, .int .i64 0] 34)).alloc (.cells #[.int .i64 0, .int .i64 0] 34)).setRow (w.heap.size + 1) (ic [0, 0])) = V from hV]
  have lS := vS.lt
  clear hV hv
  generalize hsh : w.heap.size + 1 = sh at *
  go_loopw [4, 6] (fun x i wr => ∃ k : Nat, k ≤ n - 1 ∧ i = .int .i64 (1 + (k : Int)) ∧ x = .int .i64 ((rU g n k).1 : Nat) ∧ At wr sh 34 (ic [(rU g n k).2.1, (rU g n k).2.2]) ∧ At wr w.heap.size 34 (ic [0, 0]) ∧ Keeps w wr) (fun _ i _ => n - (intOf i).toNat)
  case atStart => exact ⟨0, Nat.zero_le _, rfl, rfl, vS, vR, kV⟩
  case round =>
    obtain ⟨k, hk, rfl, rfl, hat, har, hh⟩ := hrel
    by_cases hlt : k < n - 1
    · have hkI : 1 + (k : Int) < n := by omega
      have HU : Hid (rU g n (k + 1) = rV g n (1 + k) (rU g n k) (2 * n + 1)) := Lib.hid rfl
      have q3 : IntKind.i64.wrap (1 + (k : Int) + 1) = 1 + ((k + 1 : Nat) : Int) := by rw [IntWalk.i64_in _ (by omega)]; omega
      have hnk : 1 + ((k + 1 : Nat) : Int) = 1 + (k : Int) + 1 := by omega
      rw [hnk] at q3
      have Hnk := Lib.hid hnk
      clear hnk
      obtain ⟨u, hu⟩ : ∃ u : Int, 1 + (k : Int) = u := ⟨_, rfl⟩
      rw [hu] at q3 hkI HU ⊢
      have Hu := Lib.hid hu
      have hu0 : 0 < u := by omega
      have hun : u ≤ 16 := by omega
      clear hu
      generalize rU g n k = s at *
      go_wp2_with fail
      go_loopw [4, 7] (fun x i wr2 => ∃ j : Nat, j ≤ 2 * n + 1 ∧ i = .int .i64 (-(n : Int) + j) ∧ x = .int .i64 ((rV g n u s j).1 : Nat) ∧ At wr2 sh 34 (ic [(rV g n u s j).2.1, (rV g n u s j).2.2]) ∧ At wr2 w.heap.size 34 (ic [0, 0]) ∧ Keeps w wr2) (fun _ i _ => ((n : Int) + 1 - intOf i).toNat)
      case atStart => exact ⟨0, Nat.zero_le _, by simp, rfl, hat, har, hh⟩
      case round =>
        obtain ⟨j, hj, rfl, rfl, hat2, har2, hh2⟩ := hrel
        clear hat har hh vS vR kV
        by_cases hlt2 : j < 2 * n + 1
        · have HW : Hid (rV g n u s (j + 1) = wstep g (rV g n u s j) u (-(n : Int) + j)) := Lib.hid rfl
          generalize rV g n u s j = s1 at *
          have hvn : -(n : Int) + j ≤ n := by omega
          have q2 : IntKind.i64.wrap (-(n : Int) + j + 1) = -(n : Int) + ((j + 1 : Nat) : Int) := by rw [IntWalk.i64_in _ (by omega)]; omega
          have hne : -(n : Int) + ((j + 1 : Nat) : Int) = -(n : Int) + j + 1 := by omega
          rw [hne] at q2
          have Hne := Lib.hid hne
          clear hne
          obtain ⟨v, hv1⟩ : ∃ v : Int, -(n : Int) + j = v := ⟨_, rfl⟩
          rw [hv1] at hvn q2 HW ⊢
          have Hv := Lib.hid hv1
          have hm := fun x hx => hrm u v x hx
          have hvb : -16 ≤ v := by omega
          clear hv1
          by_cases hb : s1.1 < g u v
          · have hd : decide (s1.1 < g u v) = true := by simpa using hb
            have Hw : Hid (rV g n u s (j + 1) = (g u v, u, v)) := Lib.hid (by rw [HW.out, wstep, if_pos hb])
            clear HW hb hrm
            go_wp2_with (first
              | (go_at_call 18; refine (hm _ (RdI.below hvK hh2)).mono ?_; rintro e w5 ⟨rfl, hb5⟩; have a5 := hat2.later hb5; have r5 := har2.later hb5; have k5 := Keeps.next hh2 hb5)
              | (refine wpList_store_row rfl 34 _ _ rfl sh (ic [u, v]) rfl rfl 34 (ic [s1.2.1, s1.2.2]) a5 (size2 _ _) rfl (ic_one _) ?_))
            go_roundw
            case rel => exact ⟨j + 1, by omega, by rw [Hne.out, Hv.out], by rw [Hw.out], by rw [Hw.out]; exact a5.row _, r5.rowfar (by omega) _, below_row k5 (by omega) _⟩
            case measure => simp [intOf]; omega
          · have hd : decide (s1.1 < g u v) = false := by simpa using hb
            have Hw : Hid (rV g n u s (j + 1) = s1) := Lib.hid (by rw [HW.out, wstep, if_neg hb])
            clear HW hb hrm
            go_wp2_with (go_at_call 18; refine (hm _ (RdI.below hvK hh2)).mono ?_; rintro e w5 ⟨rfl, hb5⟩; have a5 := hat2.later hb5; have r5 := har2.later hb5; have k5 := Keeps.next hh2 hb5)
            go_roundw
            case rel => exact ⟨j + 1, by omega, by rw [Hne.out, Hv.out], by rw [Hw.out], by rw [Hw.out]; exact a5, r5, k5⟩
            case measure => simp [intOf]; omega
        · obtain rfl : j = 2 * n + 1 := by omega
          have hvn : ¬ (-(n : Int) + ((2 * n + 1 : Nat) : Int) ≤ n) := by omega
          rw [← HU.out] at hat2 ⊢
          go_wp2_with fail
          go_roundw
          case rel => exact ⟨k + 1, by omega, by rw [Hnk.out, Hu.out], rfl, hat2, har2, hh2⟩
          case measure => simp [intOf]; omega
    · have hkn : k = n - 1 := by omega
      have hke : 1 + (k : Int) = n := by omega
      rw [hke]
      obtain ⟨s, hs⟩ : ∃ s, rU g n k = s := ⟨_, rfl⟩
      rw [hs] at hat ⊢
      rw [hkn] at hs
      have Hs := Lib.hid hs
      have lW := hat.lt
      clear hke hkn hlt hk hs vS vR kV
      go_wp2_with fail
      refine region_any_inv (G := Unit) (f := ?f) (fun _ => [.int .i64 (s.1 : Nat), .agg (ic [s.2.1, s.2.2]), .int .i64 (s.1 : Nat), undef])
        (fun _ L w' => Keeps w w' ∧ At w' sh 34 (ic [s.2.1, s.2.2]) ∧ (L 3 = false → At w' w.heap.size 34 (ic [0, 0])) ∧ (L 3 = true → At w' w.heap.size 34 (ic [s.2.1, s.2.2]))) () (fun _ => ?hf) (by kernel_rfl) (by kernel_rfl) ⟨below_drewN (n := 1) hh, hat.drew, fun _ => har.drew, fun h => (by cases h)⟩ ?steps ?fin
      case hf =>
        simp only [fill, List.toList_toArray, List.zip_cons_cons, List.zip_nil_left, List.zip_nil_right, List.foldl_cons, List.foldl_nil, Act.put, List.setIfInBounds_toArray, List.set_cons_succ, List.set_cons_zero]
        exact rfl
      case steps =>
        refine StepsU.cons rfl (fun G L w' hL hr hc hF => ?_) ?_
        · refine StepU.go rfl (fun K hK => ?_)
          go_simp
          exact hK () _ hF
        refine StepsU.cons rfl (fun G L w' hL hr hc hF => ?_) ?_
        · refine StepU.go rfl (fun K hK => ?_)
          refine wp_load_row 34 _ rfl sh rfl 34 (ic [s.2.1, s.2.2]) _ _ hF.2.1 Try.underlying34 rfl (size2 _ _) ?_
          exact hK () _ hF
        refine StepsU.cons rfl (fun G L w' hL hr hc hF => ?_) ?_
        · refine StepU.go rfl (fun K hK => ?_)
          go_simp
          exact hK () _ hF
        refine StepsU.cons rfl (fun G L w' hL hr hc hF => ?_) ?_
        · obtain ⟨p1, p2, p3, p4⟩ := hF
          refine StepU.go rfl (fun K hK => ?_)
          refine wp_store_row 34 _ _ rfl w.heap.size (ic [s.2.1, s.2.2]) rfl rfl 34 (ic [0, 0]) (p3 hL) (size2 _ _) rfl (ic_one _) ?_
          exact hK () _ ⟨below_row p1 (Nat.le_refl _) _, p2.rowfar (by omega) _, fun h => (by rw [add_same] at h; cases h), fun _ => (p3 hL).row _⟩
        exact StepsU.nil (by simp)
      case fin =>
      intro G L w5 hall hF
      obtain ⟨p1, _, _, p4⟩ := hF
      have aR := p4 (hall 3 (by simp))
      go_wp2_with fail
      refine bodyPost_ret (results_mix2 Try.results14 _ _ w.heap.size _ _ _ rfl aR Try.underlying34 rfl (size2 _ _)) rfl ⟨?_, p1⟩
      rw [Hs.out]
      rfl
end Go.Proofs.Ytdploccpobpjjaa
