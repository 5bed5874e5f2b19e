/- The walk of the reference's numbering. -/
import Derived.Test.YtikedhkibdeheaaQa
import Derived.Test.YtikedhkibdeheaaJb
import Derived.Laws.Concat
import Derived.Deep.AppendLies
import Derived.Deep.RegionLaw
import Derived.BigRegion
namespace Go.Proofs.Ytikedhkibdeheaa
open Go.RowKit Go.Deep
set_option linter.unusedVariables false

/-- The letters for g generators. -/
def LB : Nat → ByteArray
  | 1 => ⟨#[97, 65]⟩
  | _ => ⟨#[97, 65, 98, 66]⟩
theorem LB_size (g : Nat) (hg : g = 1 ∨ g = 2) : (LB g).size = 2 * g := by rcases hg with rfl | rfl <;> rfl
theorem LB_at (g : Nat) (hg : g = 1 ∨ g = 2) (k : Nat) (h : k < 2 * g) (h2 : k < (LB g).size) : (LB g)[k] = nm k := by
  rcases hg with rfl | rfl
  · obtain rfl | rfl : k = 0 ∨ k = 1 := by omega
    all_goals rfl
  · obtain rfl | rfl | rfl | rfl : k = 0 ∨ k = 1 ∨ k = 2 ∨ k = 3 := by omega
    all_goals rfl
theorem LB_part (g : Nat) (hg : g = 1 ∨ g = 2) (k : Nat) (h : k < 2 * g) : (LB g).extract k (k + 1) = ⟨#[nm k]⟩ := by
  rcases hg with rfl | rfl
  · obtain rfl | rfl : k = 0 ∨ k = 1 := by omega
    all_goals rfl
  · obtain rfl | rfl | rfl | rfl : k = 0 ∨ k = 1 ∨ k = 2 ∨ k = 3 := by omega
    all_goals rfl
set_option maxHeartbeats 400000 in
theorem rletters_c (g : Nat) (hg : g = 1 ∨ g = 2) (w : World) :
    Calls Try.prog 72 #[.int .i64 g] w fun e w' => e = .returned (.string (LB g)) ∧ w = w' := by
  rcases hg with rfl | rfl
  all_goals
    go_enter Try.func72, Try.ntmps72
    go_wp2_with fail
    go_ret
    exact ⟨rfl, rfl⟩

set_option maxHeartbeats 8000000 in
set_option maxRecDepth 100000 in
theorem rnumbering_c (b0 o0 c0 : Nat) (t : List (List Int)) (hB : windB t = true) (w : World) (hv : RdT w (.slice (some ⟨b0, o0, none⟩) t.length c0) t) (s : Int) (hs : 0 ≤ s ∧ s < shN t) :
    Calls Try.prog 54 #[.slice (some ⟨b0, o0, none⟩) t.length c0, .int .i64 s] w fun e w' => ∃ u y, e = .returned (.tuple #[u, y]) ∧
      RdI w' u (shs (numS (sg (windW t)) (2 * t.length) s)) ∧ RdS w' y ((wayL (numS (sg (windW t)) (2 * t.length) s) ((numS (sg (windW t)) (2 * t.length) s).length - 1)).map fun l => (⟨l.toArray⟩ : ByteArray)) ∧ Keeps w w' := by
  obtain ⟨i0, hi, hz0, hz1, hz2⟩ := info_parts infoI
  obtain ⟨j0, hj, hy0, hy1, hy2⟩ := info_parts infoS
  obtain ⟨hg12, d1, d5, _⟩ := windB_parts t hB
  have hWd := windW_okd t hB
  have hlet := fun x => rletters_c t.length hg12 x
  have hst := fun x hx s hs c hc => rstep_c (.slice (some ⟨b0, o0, none⟩) t.length c0) t hB x hx s hs c hc
  have hLs := LB_size t.length hg12
  have HLat := Lib.hid (LB_at t.length hg12)
  have HLp := Lib.hid (LB_part t.length hg12)
  have hok := fun k => nums_ok (shN t) (windW t) hWd (by omega) (2 * t.length) (by omega) s hs k
  have Hg12 := Lib.hid hg12
  have Hst := Lib.hid hst
  have Hok := Lib.hid hok
  have Hs := Lib.hid hs
  have HWd := Lib.hid hWd
  have hgl : t.length ≤ 2 := by omega
  have hgl1 : 1 ≤ t.length := by omega
  clear hst hok hs hWd hg12 hB
  generalize LB t.length = lb at *
  have hlbs : lb.size = 2 * t.length := hLs
  have Hlbs := Lib.hid hlbs
  have hlb4 : lb.size ≤ 4 := by omega
  clear hlbs hLs
  generalize hLW : windW t = W at *
  clear hLW
  go_enter Try.func54, Try.ntmps54
  go_wp2_with (go_at_call 72; refine (hlet _).mono ?_; rintro e w1 ⟨rfl, rfl⟩)
  clear hlet
  have hat1 := At.new w 3 #[.int .i64 s]
  go_loopw [6, 7, 9] (fun u y i wr => ∃ (k : Nat) (L : List Fd), L = numL (sg W) (2 * t.length) s k ∧ k ≤ L.length ∧ i = .int .i64 k ∧ wr.ownsRow w.heap.size 3 1 u L.length ((shs L).map (Value.int .i64)) ∧ wr.ownsRow w.heap.size 9 1 y L.length (strs (wayL L (L.length - 1))) ∧ Keeps w wr) (fun _ _ i _ => 5 - (intOf i).toNat)
  case atStart =>
    refine ⟨0, _, rfl, Nat.zero_le _, rfl, ?_, ?_, Keeps.alloc (Keeps.alloc (Below.refl _ _) _) _⟩
    · exact own_later (World.ownsRow_lit (e := 3) (size := 1) (base := w.heap.size) w #[.int .i64 s] 1 (Nat.le_refl _) (by unfold maxLen; omega) rfl) (Keeps.alloc (Below.refl _ _) _)
    · have h := World.ownsRow_lit (e := 9) (size := 1) (base := w.heap.size) (w.alloc (.cells #[.int .i64 s] 3)) #[.string ⟨#[]⟩] 1 (Keeps.alloc (Below.refl _ _) _).size (by unfold maxLen; omega) rfl
      rw [show (w.alloc (.cells #[.int .i64 s] 3)).heap.size = w.heap.size + 1 by simp] at h
      exact h
  case round =>
    obtain ⟨k, L, hL, hk, rfl, hu, hy, hb⟩ := hrel
    have HL := Lib.hid hL
    have hnok := Hok.out k
    rw [← hL] at hnok
    have hL5 := numOk_len hnok
    have hL1 : 1 ≤ L.length := hnok.1
    have Hnok := Lib.hid hnok
    clear hL hnok
    by_cases hlt : k < L.length
    · obtain ⟨gu, cu, rfl, hgu1, hgu2, _, _, hcu⟩ := own_form hu (by omega)
      obtain ⟨gy, cy, rfl, hgy1, hgy2, _, _, hcy⟩ := own_form hy (by omega)
      clear hcu hcy
      go_wp2_with fail
      go_loopw [6, 7, 10] (fun u y i wj => ∃ (m : Nat) (M : List Fd), M = numR (sg W) k L m ∧ m ≤ 2 * t.length ∧ i = .int .i64 m ∧ wj.ownsRow w.heap.size 3 1 u M.length ((shs M).map (Value.int .i64)) ∧ wj.ownsRow w.heap.size 9 1 y M.length (strs (wayL M (M.length - 1))) ∧ Keeps w wj) (fun _ _ i _ => 2 * t.length - (intOf i).toNat)
      case atStart => exact ⟨0, L, rfl, Nat.zero_le _, rfl, hu, hy, hb⟩
      case round =>
        obtain ⟨m, M, hM, hm, rfl, huM, hyM, hbM⟩ := hrel
        have HM := Lib.hid hM
        have hR := numR_ok (n := (shN t : Int)) (σ := sg W) (at_ := k) (g := 2 * t.length) (L := L) (fun x m h1 h2 h3 h4 => HWd.out.2 _ (by omega) (by omega)) Hnok.out hlt m hm
        rw [← hM] at hR
        obtain ⟨hMok, hkM⟩ := hR
        have hM5 := numOk_len hMok
        have HMok := Lib.hid hMok
        obtain ⟨gv, cv, rfl, hgv1, hgv2, _, _, hcv⟩ := own_form huM (by omega)
        obtain ⟨gz, cz, rfl, hgz1, hgz2, _, _, hcz⟩ := own_form hyM (by omega)
        clear hM hMok
        by_cases hml : m < 2 * t.length
        · have hmlb : m < lb.size := by have := Hlbs.out; omega
          have hm4 : m < 4 := by omega
          have hch : lb[m] = nm m := HLat.out m hml hmlb
          have hpart := HLp.out m hml
          have hcell : ∀ j, j < M.length → wr.cell? ⟨gv, j, none⟩ = some (.int .i64 (sh M j)) := fun j hj => hcv j _ (by
            rw [List.getElem?_map, shs, List.getElem?_map, List.getElem?_eq_getElem hj]
            simp [sh, List.getElem?_eq_getElem hj])
          have hwcell : wr.cell? ⟨gz, k, none⟩ = some (.string ⟨((wayL M (M.length - 1))[k]?.getD []).toArray⟩) := hcz k _ (by
            rw [strs, List.getElem?_map, List.getElem?_eq_getElem (by rw [wayL_length]; omega)]; rfl)
          have hsin := HMok.out.2.2 _ (sh_mem M k hkM)
          have hokc : okL t.length lb[m] = true := by rw [hch]; exact nm_ok _ (by have := Hg12.out; omega) _ (by omega) (by omega)
          obtain ⟨x, hx⟩ : ∃ x, x = sg W (sh M k) m := ⟨_, rfl⟩
          have hvj := hv.below hbM
          have hstep : ∀ n, Calls Try.prog 73 #[.slice (some ⟨b0, o0, none⟩) t.length c0, .int .i64 (sh M k), .int .u8 lb[m].toNat] (wr.drewN n) fun e w' => e = .returned (.int .i64 x) ∧ w' = wr.drewN n := fun n => by
            have h := Hst.out (wr.drewN n) (hvj.below (keeps_drewN wr n)) (sh M k) hsin lb[m] hokc
            rw [show stp W (sh M k) lb[m] = x by rw [hch, stp_nm W _ m hm4, hx]] at h
            exact h
          have hck := hcell k hkM
          have Hcell := Lib.hid hcell
          have Hwcell := Lib.hid hwcell
          have Hx := Lib.hid hx
          have Hpart := Lib.hid hpart
          clear hcv hcz hcell hwcell hsin hx hch hokc hpart hvj
          go_wp2_with fail
          go_quiet ((go_at_call 73; exact Calls.quiet_of_same (hstep _)))
          go_wp2_with fail
          have hk5 := keeps_drewN wr nq
          have hu5 := own_later huM hk5
          have hy5 := own_later hyM hk5
          have hb5 := Keeps.next hbM hk5
          have Hc5 := Lib.hid (fun j (hj : j < M.length) => cell_keep (Hcell.out j hj) hk5)
          have hw5 := cell_keep Hwcell.out hk5
          clear hstep hck hk5 huM hyM Hcell Hwcell hbM
          generalize wr.drewN nq = w5 at *
          have hML : (shs M).length = M.length := shs_length M
          have HML := Lib.hid hML
          clear hML
          go_loopw [12, 13] (fun f j wi => ∃ q : Nat, q ≤ M.length ∧ j = .int .i64 q ∧ f = .bool (decide (x ∈ (shs M).take q)) ∧ wi = w5) (fun _ j _ => M.length - (intOf j).toNat)
          case atStart => exact ⟨0, Nat.zero_le _, rfl, by simp, rfl⟩
          case round =>
            obtain ⟨q, hq, rfl, rfl, e⟩ := hrel
            obtain rfl := e.symm
            by_cases hql : q < M.length
            · have hcq := Hc5.out q hql
              have Hsn := Lib.hid (take_mem_snoc (shs M) q (by rw [HML.out]; exact hql) x)
              have Hnth := Lib.hid (nth_shs M q hql)
              generalize decide (x ∈ (shs M).take q) = fb at *
              cases fb
              · go_wp2_with fail
                go_roundw
                case rel => exact ⟨q + 1, by omega, by go_num, by rw [Hsn.out, Hnth.out, Bool.false_or], by trivial⟩
                case measure => simp [intOf]; omega
              · go_wp2_with fail
                go_roundw
                case rel => exact ⟨q + 1, by omega, by go_num, by rw [Hsn.out, Bool.true_or], by trivial⟩
                case measure => simp [intOf]; omega
            · obtain rfl : q = M.length := by omega
              have hall : (shs M).take M.length = shs M := by rw [← HML.out, List.take_length]
              rw [hall]
              clear hall
              by_cases hin : x ∈ shs M
              · have hd : decide (x ∈ shs M) = true := by simpa using hin
                rw [hd]
                have Hnx := Lib.hid (numI_in (σ := sg W) (k := k) (m := m) (L := L) HM.out (by rw [← Hx.out]; exact hin))
                clear hin hd
                go_wp2_with fail
                go_roundw
                case rel => exact ⟨m + 1, M, by rw [Hnx.out], by omega, by go_num, hu5, hy5, hb5⟩
                case measure => simp [intOf]; omega
              · have hd : decide (x ∈ shs M) = false := by simpa using hin
                rw [hd]
                have Hnx := Lib.hid (numI_new (σ := sg W) (k := k) (m := m) (L := L) HM.out (by rw [← Hx.out]; exact hin))
                rw [← Hx.out] at Hnx
                have Hw5 := Lib.hid hw5
                have hsz5 := hb5.size
                have hbase5 := own_base hu5
                have Hbase5 := Lib.hid hbase5
                have Hap := Lib.hid (fun o : Obj => own_apart (hu5.alloc o) (hy5.alloc o) (by decide))
                have hlen1 : M.length + 1 ≤ maxLen := by unfold maxLen; omega
                clear hin hd hw5 hbase5
                go_upto_region 18 with (at_builtin; refine wpList_append_own _ rfl _ _ 35 rfl w.heap.size 3 i0 _ 1 8 Try.underlying35 hi hz0 hz1 hz2 rfl (by decide) _ M.length _ rfl (hu5.alloc _) _ 1 1 [.int .i64 x] rfl rfl (new_cells _ _ _ _ (by simp)) (by simp [Value.oneCell']) (by unfold maxLen; omega) (by omega) (by simp; omega) ?_; intro v' w6 hown6 hgrow6 _)
                have hy6 := own_grown (hy5.alloc (.cells #[.int .i64 x] 3)) hgrow6 (Hap.out (.cells #[.int .i64 x] 3))
                have hk56 : Keeps w w6 := below_grown'' (Keeps.alloc hb5 _) hgrow6 Hbase5.out (by simp; omega)
                obtain ⟨_, _, e6, _, _, _, _, hcz6⟩ := own_form hy6 (by omega)
                cases e6
                obtain ⟨ua, hua⟩ : ∃ ua, ua = (wayL M (M.length - 1))[k]?.getD [] := ⟨_, rfl⟩
                obtain ⟨A, hA⟩ : ∃ A : ByteArray, A = ⟨ua.toArray⟩ := ⟨_, rfl⟩
                obtain ⟨pb, hpb⟩ : ∃ pb : ByteArray, pb = ⟨#[nm m]⟩ := ⟨_, rfl⟩
                obtain ⟨C, hC⟩ : ∃ C : ByteArray, C = ⟨(ua ++ [nm m]).toArray⟩ := ⟨_, rfl⟩
                have hwc : w6.cell? ⟨gz, k, none⟩ = some (.string A) := hcz6 k _ (by
                  rw [strs, List.getElem?_map, List.getElem?_eq_getElem (by rw [wayL_length]; omega), hA, hua, List.getElem?_eq_getElem (by rw [wayL_length]; omega)]; rfl)
                have hcat : A ++ pb = C := by rw [hA, hpb, hC]; apply ByteArray.ext; simp [ByteArray.data_append]
                have hAs : A.size ≤ 100 := by
                  have := wayL_at_short M (M.length - 1) k
                  rw [← hua] at this
                  rw [hA]; show ua.toArray.size ≤ 100; rw [List.size_toArray]; omega
                have hps : pb.size ≤ 1 := by rw [hpb]; exact Nat.le_refl _
                have hadd : ∀ V, (Op.stringOp .add A pb).run Try.prog V = .ok (.string C) V := fun V => by rw [run_string_add_sum V A pb (by omega), hcat]
                have hex : lb.extract m (m + 1) = pb := by rw [hpb]; exact Hpart.out
                have q1 : IntKind.i64.wrap ((m : Int) + 1) = (m : Int) + 1 := IntWalk.i64_in _ (by omega)
                have q2 : 0 ≤ (m : Int) + 1 := by omega
                have q3 : (m : Int) + 1 ≤ lb.size := by omega
                have q4 : ((m : Int) + 1).toNat = m + 1 := by omega
                have q5 : (m : Int) ≤ (m : Int) + 1 := by omega
                have s4 : (M.length + 1) * 16 ≤ 140737488355328 := by omega
                have s6 : w.heap.size ≤ (w6.drew.alloc (.cells #[.string C] 9)).heap.size := by have := hk56.size; simp; omega
                have HC := Lib.hid hC
                have Hua := Lib.hid hua
                clear hcz6 hA hpb hC hua hcat hAs hps hy5 hu5 hv
                go_region_law (refine step_append_lies _ rfl (.tmp 62) (.tmp 73) 23 rfl w.heap.size 9 j0 (.string ByteArray.empty) 1 16 Try.underlying23 hj hy0 hy1 hy2 rfl (by decide) (.slice (some ⟨gz, 0, none⟩) M.length cz) M.length _ rfl ((show World.ownsRow w6.drew _ _ _ _ _ _ from hy6).alloc _) ⟨w6.heap.size, 0, none⟩ 1 1 [.string C] rfl rfl (new_cells _ _ _ _ rfl) (by simp [Value.oneCell']) (by decide) hlen1 s4 s6 (w6.heap.size + 1) (by simp) ?_; intro g7 cap7 w7 hown7 hgrow7 _ _)
                have hord7 := own_grown ((show World.ownsRow w6.drew _ _ _ _ _ _ from hown6).alloc (.cells #[.string C] 9)) hgrow7 (own_apart ((show World.ownsRow w6.drew _ _ _ _ _ _ from hy6).alloc (.cells #[.string C] 9)) ((show World.ownsRow w6.drew _ _ _ _ _ _ from hown6).alloc (.cells #[.string C] 9)) (by decide))
                have hk67 : Keeps w w7 := below_grown'' (Keeps.alloc hk56.drew _) hgrow7 (own_base hy6) s6
                have hws7 : w7.ownsRow w.heap.size 9 1 (.slice (some ⟨g7, 0, none⟩) (M.length + 1) cap7) (M ++ [(x, (k : Int), (m : Int))]).length (strs (wayL (M ++ [(x, (k : Int), (m : Int))]) ((M ++ [(x, (k : Int), (m : Int))]).length - 1))) := by
                  have hl : (M ++ [(x, (k : Int), (m : Int))]).length = M.length + 1 := by simp
                  rw [hl, Nat.add_sub_cancel, wayL_new M (by omega) x k m, strs_append]
                  rw [HC.out, Hua.out] at hown7
                  exact hown7
                have hors7 : w7.ownsRow w.heap.size 3 1 v' (M ++ [(x, (k : Int), (m : Int))]).length ((shs (M ++ [(x, (k : Int), (m : Int))])).map (Value.int .i64)) := by
                  have hl : (M ++ [(x, (k : Int), (m : Int))]).length = M.length + 1 := by simp
                  rw [hl, shs_snoc, List.map_append]
                  exact hord7
                clear hown7 hord7 hown6 hy6 hwc hadd hex q1 q2 q3 q4 q5
                go_wp2_with fail
                go_roundw
                case rel => exact ⟨m + 1, M ++ [(x, (k : Int), (m : Int))], by rw [Hnx.out], by omega, by go_num, hors7, hws7, hk67⟩
                case measure => simp [intOf]; omega
        · obtain rfl : m = 2 * t.length := by omega
          have hlm : ¬ ((2 * t.length : Nat) : Int) < lb.size := by have := Hlbs.out; omega
          clear hcv hcz
          go_wp2_with fail
          go_roundw
          case rel => exact ⟨k + 1, M, by rw [HM.out, numL_succ, ← HL.out, if_pos hlt], by omega, by go_num, huM, hyM, hbM⟩
          case measure => simp [intOf]; omega
    · obtain rfl : k = L.length := by omega
      obtain ⟨gu, cu, rfl, hgu1, hgu2, _, _, hcu⟩ := own_form hu (by omega)
      obtain ⟨gy, cy, rfl, hgy1, hgy2, _, _, hcy⟩ := own_form hy (by omega)
      clear hcu hcy
      have hS := Lib.hid (show numS (sg W) (2 * t.length) s = L from (numS_of (sg W) (2 * t.length) s L.length (by omega) (Nat.le_of_eq (by rw [← HL.out]))).trans HL.out.symm)
      go_wp2_with fail
      refine bodyPost_ret (results_tmp2 (t := 4) (u := 5) (by rfl) _ _ _) rfl ⟨_, _, rfl, ?_, ?_, hb⟩
      · rw [hS.out]
        exact RdB.rd (own_ints (by rw [shs_length]; exact hu) (by rw [shs_length]; unfold maxLen; omega)) (fun _ _ h => h)
      · rw [hS.out]
        exact RdB.rd (own_rds (l := wayL L (L.length - 1)) (by rw [wayL_length, Nat.sub_add_cancel hL1]; exact hy) (by rw [wayL_length]; unfold maxLen; omega)) (fun _ _ h => h)
end Go.Proofs.Ytikedhkibdeheaa
