/- The reference's Generators. -/
import Derived.Test.YtikedhkibdeheaaQh
import Derived.Test.YtikedhkibdeheaaNf
import Derived.Test.YtikedhkibdeheaaIc
namespace Go.Proofs.Ytikedhkibdeheaa
open Go.RowKit Go.Deep
set_option linter.unusedVariables false
set_option maxHeartbeats 2000000 in
set_option maxRecDepth 100000 in
theorem rgens_c (v : Value) (t : List (List Int)) (hB : windB t = true) (hS : stdB (windW t) = true) (w : World) (hv : RdT w v t) :
    Calls Try.prog 30 #[v] w fun e w' => ∃ u, e = .returned u ∧ RdS w' u ((gensT t).map fun l => (⟨l.toArray⟩ : ByteArray)) ∧ Keeps w w' := by
  obtain ⟨h12, d1, d5, _⟩ := windB_parts t hB
  have hway := rways_c v t hB w hv
  have hlen := stdB_len t hB hS
  have hn : numS (sg (windW t)) (2 * nth (windW t) 0).toNat 0 = numT t 0 := by rw [windW_nth0 t hB, show (2 * (t.length : Int)).toNat = 2 * t.length by omega, numT]
  have hg : nth (windW t) 0 = 1 ∨ nth (windW t) 0 = 2 := by rw [windW_nth0 t hB]; omega
  have hnum := numS_p (sg (windW t)) (2 * nth (windW t) 0).toNat 0
  have hwl := fun k (hk : k < shN t) => wayL_ok (nth (windW t) 0) hg (numT t 0) (by rw [hn] at hnum; rwa [show ((2 * nth (windW t) 0).toNat : Int) = 2 * nth (windW t) 0 by omega] at hnum) (shN t - 1) (by rw [← hn, hlen]; omega)
  have hsgt := fun c l hl j hj => (sg_at t hB c l hl j hj).1
  have hcol := fun c l hl => col_of t hB c l hl
  rw [hn] at hlen
  have hY : waysT t = (wayL (numT t 0) (shN t - 1)).map fun l => (⟨l.toArray⟩ : ByteArray) := by rw [waysT, hlen]
  have hYl : (wayL (numT t 0) (shN t - 1)).length = shN t := by rw [wayL_length]; omega
  have hG : gensT t = genL (windW t) (wayL (numT t 0) (shN t - 1)) t.length (shN t) := by rw [gensT, hn]
  rw [hY] at hway
  rw [hG]
  generalize wayL (numT t 0) (shN t - 1) = wl at *
  generalize windW t = W at *
  have Hsgt := Lib.hid hsgt
  have Hcol := Lib.hid hcol
  have Hwl := Lib.hid hwl
  have HYl := Lib.hid hYl
  obtain ⟨i0, hi, hz0, hz1, hz2⟩ := info_parts infoS
  obtain ⟨A4, c4, rfl, hm4, hcs4⟩ := id hv
  have Hcs4 := Lib.hid hcs4
  unfold maxLen at hm4
  have hg2 : t.length ≤ 2 := by omega
  clear hsgt hcol hwl hYl hY hG hn hnum hlen hS hB hcs4 hv
  go_enter Try.func30, Try.ntmps30
  go_wp2_with (go_at_call 29; refine hway.mono ?_; rintro e w1 ⟨y, rfl, hy, hb1⟩)
  obtain ⟨A1, c1, rfl, hm1, hcs1⟩ := id hy
  rw [List.length_map, HYl.out] at hm1 ⊢
  have hcw : ∃ g1 o1, A1 = some ⟨g1, o1, none⟩ ∧ ∀ k, k < shN t → w1.cell? ⟨g1, o1 + k, none⟩ = some (.string ⟨(wl[k]?.getD []).toArray⟩) := by
    obtain ⟨g1, o1, _, rfl, _, _⟩ := hcs1 0 (by rw [List.length_map, HYl.out]; omega)
    refine ⟨g1, o1, rfl, fun k hk => ?_⟩
    obtain ⟨_, _, _, h1, h2, s, h3, rfl⟩ := hcs1 k (by rw [List.length_map, HYl.out]; omega)
    cases h1
    rw [h2]
    have hk' : k < wl.length := by rw [HYl.out]; exact hk
    rw [List.getElem?_map, List.getElem?_eq_getElem hk'] at h3
    cases h3
    rw [List.getElem?_eq_getElem hk']; rfl
  obtain ⟨g1, o1, rfl, hcw⟩ := hcw
  have Hcw := Lib.hid hcw
  unfold maxLen at hm1
  clear hcw hcs1 hy hway
  go_loopw [4, 5] (fun u i wr => ∃ k : Nat, k ≤ shN t ∧ i = .int .i64 k ∧ wr.ownsRow w1.heap.size 9 1 u (genL W wl t.length k).length (strs (genL W wl t.length k)) ∧ Keeps w1 wr) (fun _ i _ => shN t - (intOf i).toNat)
  case atStart => exact ⟨0, Nat.zero_le _, rfl, World.ownsRow_nil _ _ _ _, Below.refl _ _⟩
  case round =>
    obtain ⟨k, hk, rfl, hown, hb⟩ := hrel
    by_cases hlt : k < shN t
    · have hown0 : World.ownsRow wr w1.heap.size 9 1 u4 (genL W wl t.length k ++ genS W wl k 0).length (strs (genL W wl t.length k ++ genS W wl k 0)) := by simpa [genS] using hown
      go_wp2_with fail
      go_loopw [4, 6] (fun u i wr => ∃ m : Nat, m ≤ t.length ∧ i = .int .i64 m ∧ wr.ownsRow w1.heap.size 9 1 u (genL W wl t.length k ++ genS W wl k m).length (strs (genL W wl t.length k ++ genS W wl k m)) ∧ Keeps w1 wr) (fun _ i _ => t.length - (intOf i).toNat)
      case atStart => exact ⟨0, Nat.zero_le _, rfl, hown0, hb⟩
      case round =>
        obtain ⟨m, hm, rfl, hownj, hbj⟩ := hrel
        by_cases hml : m < t.length
        · obtain ⟨b4, off4, x4, rfl, hc4, l, hl, hr4⟩ := Hcs4.out m hml
          obtain ⟨A5, c5, rfl, hm5, hcs5⟩ := hr4
          have hlc := (Hcol.out m l hl).1
          obtain ⟨b5, off5, _, rfl, hc5, rfl⟩ := hcs5 k (by omega)
          obtain ⟨x0, xd⟩ := (Hcol.out m l hl).2.2.2.2 k (by omega)
          have hsg := Hsgt.out m l hl k hlt
          have hgw : genW W wl k m = red ((wl[k]?.getD []) ++ [nm (2 * (m : Int))] ++ inv (wl[(sg W k (2 * (m : Int))).toNat]?.getD [])) := rfl
          rw [show (2 * (m : Int)) = ((2 * m : Nat) : Int) by omega, hsg] at hgw
          obtain ⟨n, hn⟩ := Int.eq_ofNat_of_zero_le x0
          rw [hn] at hgw xd hc5
          rw [Int.toNat_natCast] at hgw
          have hnd : n < shN t := by omega
          have hmem : ∀ j, j < shN t → wl[j]?.getD [] ∈ wl := fun j hj => by rw [List.getElem?_eq_getElem (by rw [HYl.out]; omega)]; exact List.getElem_mem _
          have hkk := hb1.next hbj
          have hck := cell_keep (Hcw.out k hlt) hbj
          have hcn := cell_keep (Hcw.out n hnd) hbj
          have hct := cell_keep hc4 hkk
          have hcl := cell_keep hc5 hkk
          obtain ⟨hu1, hu2⟩ := Hwl.out k hlt _ (hmem k hlt)
          obtain ⟨hv1, hv2⟩ := Hwl.out n hnd _ (hmem n hnd)
          have hu2' := all_two (nth W 0) _ hu1
          have hv2' := all_two (nth W 0) _ hv1
          generalize wl[k]?.getD [] = ua at *
          generalize wl[n]?.getD [] = ub at *
          unfold maxLen at hm5
          have Hgw := Lib.hid hgw
          clear hgw hn hsg hmem hcs5 hc4 hc5
          obtain rfl | rfl : m = 0 ∨ m = 1 := by omega
          · rw [Nat.add_zero] at hct
            have q1 : (⟨#[97, 98]⟩ : ByteArray).extract 0 1 = ⟨#[97]⟩ := ByteArray.ext (by rfl)
            have q2 : IntKind.i64.wrap 1 = 1 := by decide
            obtain ⟨B1, hB1⟩ : ∃ B1 : ByteArray, B1 = ⟨(ua ++ [97]).toArray⟩ := ⟨_, rfl⟩
            obtain ⟨B2, hB2⟩ : ∃ B2 : ByteArray, B2 = ⟨(ua ++ [97] ++ inv ub).toArray⟩ := ⟨_, rfl⟩
            have hadd1 : ∀ V, (Op.stringOp .add (⟨ua.toArray⟩ : ByteArray) ⟨#[97]⟩).run Try.prog V = .ok (.string B1) V := fun V => by
              rw [run_string_add_sum V _ _ (by show ua.toArray.size + 1 ≤ _; simp <;> omega), hB1]; congr 2
            have hadd2 : ∀ V, (Op.stringOp .add B1 (⟨(inv ub).toArray⟩ : ByteArray)).run Try.prog V = .ok (.string B2) V := fun V => by
              rw [run_string_add_sum V _ _ (by rw [hB1]; show (ua ++ [97]).toArray.size + (inv ub).toArray.size ≤ _; simp [inv_length] <;> omega), hB1, hB2]; congr 2
            have hinv := fun x => rinv_c ⟨ub.toArray⟩ hv2' (by show ub.toArray.size ≤ _; simp; omega) x
            have hred := fun x => rreduce_c B2 (by rw [hB2]; simp only [List.all_append, Bool.and_eq_true]; exact ⟨⟨hu2', by decide⟩, inv_all ub hv2'⟩) (by rw [hB2]; show (ua ++ [97] ++ inv ub).toArray.size ≤ _; simp [inv_length] <;> omega) x
            have hgR : red B2.data.toList = genW W wl k 0 := by rw [hB2]; exact Hgw.out.symm
            rw [hgR] at hred
            clear hB1 hB2 hgR
            go_wp2_with fail
            go_region_held3 (fun w' => w'.cell? ⟨g1, o1 + k, none⟩ = some (.string ⟨ua.toArray⟩) ∧ w'.cell? ⟨g1, o1 + n, none⟩ = some (.string ⟨ub.toArray⟩) ∧ w'.cell? ⟨b4, off4, none⟩ = some (.slice (some ⟨b5, off5, none⟩) l.length c5) ∧ w'.cell? ⟨b5, off5 + k, none⟩ = some (.int .i64 n))
              (first | exact ⟨hck, hcn, hct, hcl⟩ | exact ⟨cell_keep (w := wr.drew) hck hb5, cell_keep (w := wr.drew) hcn hb5, cell_keep (w := wr.drew) hct hb5, cell_keep (w := wr.drew) hcl hb5⟩ | exact ⟨cell_keep (w := wr.drew) hck (Keeps.next hb5 hb6), cell_keep (w := wr.drew) hcn (Keeps.next hb5 hb6), cell_keep (w := wr.drew) hct (Keeps.next hb5 hb6), cell_keep (w := wr.drew) hcl (Keeps.next hb5 hb6)⟩)
              (first
                | (go_at_call 11; refine (hinv _).mono ?_; rintro e w5 ⟨rfl, hb5⟩)
                | (go_at_call 55; refine (hred _).mono ?_; rintro e w6 ⟨rfl, hb6⟩))
            have hk6 : Keeps wr w6 := Keeps.next (Keeps.next (Below.drew (Below.refl _ _)) hb5) hb6
            have hown6 := own_later hownj hk6
            have hb16 : Keeps w1 w6 := hbj.next hk6
            have hsz6 := hb16.size
            have Hob6 := Lib.hid (own_base hown6)
            have Hs := Lib.hid (show genL W wl t.length k ++ genS W wl k (0 + 1) = (genL W wl t.length k ++ genS W wl k 0) ++ (if genW W wl k 0 = [] then [] else [genW W wl k 0]) by rw [genS_succ, List.append_assoc])
            have hle6 : (genL W wl t.length k ++ genS W wl k 0).length ≤ 20 := by
              have h1 := genL_le W wl t.length k
              have h2 := genS_le W wl k 0
              have h3 : k * t.length ≤ 5 * 2 := Nat.mul_le_mul (by omega) hg2
              rw [List.length_append]; omega
            clear hadd1 hadd2 hred hinv q1 q2 hck hcn hct hcl Hgw
            generalize genL W wl t.length k ++ genS W wl k 0 = G at *
            generalize genW W wl k 0 = z at *
            by_cases hG : z = []
            · subst hG
              go_wp2_with fail
              go_roundw
              case rel => exact ⟨0 + 1, by omega, by go_num, by rw [Hs.out, if_pos rfl, List.append_nil]; exact hown6, hb16⟩
              case measure => simp [intOf]; omega
            · have hne : (!z.isEmpty) = true := by simpa using hG
              go_wp2_with (at_builtin; refine wpList_append_own _ rfl _ _ 23 rfl w1.heap.size 9 i0 _ 1 16 Try.underlying23 hi hz0 hz1 hz2 rfl (by decide) _ G.length (strs G) rfl (hown6.alloc _) _ 1 1 [.string ⟨z.toArray⟩] rfl rfl (new_cells _ _ _ _ (by simp)) (by simp [Value.oneCell']) (by unfold maxLen; omega) (by omega) (by simp; omega) ?_; intro v' w7 hown7 hgrow7 _)
              go_roundw
              case rel => exact ⟨0 + 1, by omega, by go_num, by rw [Hs.out, if_neg hG, List.length_append, strs_append]; exact hown7, below_grown'' (Keeps.alloc hb16 _) hgrow7 Hob6.out (by simp; omega)⟩
              case measure => simp [intOf]; omega
          · have q1 : (⟨#[97, 98]⟩ : ByteArray).extract 1 2 = ⟨#[98]⟩ := ByteArray.ext (by rfl)
            have q2 : IntKind.i64.wrap 2 = 2 := by decide
            obtain ⟨B1, hB1⟩ : ∃ B1 : ByteArray, B1 = ⟨(ua ++ [98]).toArray⟩ := ⟨_, rfl⟩
            obtain ⟨B2, hB2⟩ : ∃ B2 : ByteArray, B2 = ⟨(ua ++ [98] ++ inv ub).toArray⟩ := ⟨_, rfl⟩
            have hadd1 : ∀ V, (Op.stringOp .add (⟨ua.toArray⟩ : ByteArray) ⟨#[98]⟩).run Try.prog V = .ok (.string B1) V := fun V => by
              rw [run_string_add_sum V _ _ (by show ua.toArray.size + 1 ≤ _; simp <;> omega), hB1]; congr 2
            have hadd2 : ∀ V, (Op.stringOp .add B1 (⟨(inv ub).toArray⟩ : ByteArray)).run Try.prog V = .ok (.string B2) V := fun V => by
              rw [run_string_add_sum V _ _ (by rw [hB1]; show (ua ++ [98]).toArray.size + (inv ub).toArray.size ≤ _; simp [inv_length] <;> omega), hB1, hB2]; congr 2
            have hinv := fun x => rinv_c ⟨ub.toArray⟩ hv2' (by show ub.toArray.size ≤ _; simp; omega) x
            have hred := fun x => rreduce_c B2 (by rw [hB2]; simp only [List.all_append, Bool.and_eq_true]; exact ⟨⟨hu2', by decide⟩, inv_all ub hv2'⟩) (by rw [hB2]; show (ua ++ [98] ++ inv ub).toArray.size ≤ _; simp [inv_length] <;> omega) x
            have hgR : red B2.data.toList = genW W wl k 1 := by rw [hB2]; exact Hgw.out.symm
            rw [hgR] at hred
            clear hB1 hB2 hgR
            go_wp2_with fail
            go_region_held3 (fun w' => w'.cell? ⟨g1, o1 + k, none⟩ = some (.string ⟨ua.toArray⟩) ∧ w'.cell? ⟨g1, o1 + n, none⟩ = some (.string ⟨ub.toArray⟩) ∧ w'.cell? ⟨b4, off4 + 1, none⟩ = some (.slice (some ⟨b5, off5, none⟩) l.length c5) ∧ w'.cell? ⟨b5, off5 + k, none⟩ = some (.int .i64 n))
              (first | exact ⟨hck, hcn, hct, hcl⟩ | exact ⟨cell_keep (w := wr.drew) hck hb5, cell_keep (w := wr.drew) hcn hb5, cell_keep (w := wr.drew) hct hb5, cell_keep (w := wr.drew) hcl hb5⟩ | exact ⟨cell_keep (w := wr.drew) hck (Keeps.next hb5 hb6), cell_keep (w := wr.drew) hcn (Keeps.next hb5 hb6), cell_keep (w := wr.drew) hct (Keeps.next hb5 hb6), cell_keep (w := wr.drew) hcl (Keeps.next hb5 hb6)⟩)
              (first
                | (go_at_call 11; refine (hinv _).mono ?_; rintro e w5 ⟨rfl, hb5⟩)
                | (go_at_call 55; refine (hred _).mono ?_; rintro e w6 ⟨rfl, hb6⟩))
            have hk6 : Keeps wr w6 := Keeps.next (Keeps.next (Below.drew (Below.refl _ _)) hb5) hb6
            have hown6 := own_later hownj hk6
            have hb16 : Keeps w1 w6 := hbj.next hk6
            have hsz6 := hb16.size
            have Hob6 := Lib.hid (own_base hown6)
            have Hs := Lib.hid (show genL W wl t.length k ++ genS W wl k (1 + 1) = (genL W wl t.length k ++ genS W wl k 1) ++ (if genW W wl k 1 = [] then [] else [genW W wl k 1]) by rw [genS_succ, List.append_assoc])
            have hle6 : (genL W wl t.length k ++ genS W wl k 1).length ≤ 20 := by
              have h1 := genL_le W wl t.length k
              have h2 := genS_le W wl k 1
              have h3 : k * t.length ≤ 5 * 2 := Nat.mul_le_mul (by omega) hg2
              rw [List.length_append]; omega
            clear hadd1 hadd2 hred hinv q1 q2 hck hcn hct hcl Hgw
            generalize genL W wl t.length k ++ genS W wl k 1 = G at *
            generalize genW W wl k 1 = z at *
            by_cases hG : z = []
            · subst hG
              go_wp2_with fail
              go_roundw
              case rel => exact ⟨1 + 1, by omega, by go_num, by rw [Hs.out, if_pos rfl, List.append_nil]; exact hown6, hb16⟩
              case measure => simp [intOf]; omega
            · have hne : (!z.isEmpty) = true := by simpa using hG
              go_wp2_with (at_builtin; refine wpList_append_own _ rfl _ _ 23 rfl w1.heap.size 9 i0 _ 1 16 Try.underlying23 hi hz0 hz1 hz2 rfl (by decide) _ G.length (strs G) rfl (hown6.alloc _) _ 1 1 [.string ⟨z.toArray⟩] rfl rfl (new_cells _ _ _ _ (by simp)) (by simp [Value.oneCell']) (by unfold maxLen; omega) (by omega) (by simp; omega) ?_; intro v' w7 hown7 hgrow7 _)
              go_roundw
              case rel => exact ⟨1 + 1, by omega, by go_num, by rw [Hs.out, if_neg hG, List.length_append, strs_append]; exact hown7, below_grown'' (Keeps.alloc hb16 _) hgrow7 Hob6.out (by simp; omega)⟩
              case measure => simp [intOf]; omega
        · obtain rfl : m = t.length := by omega
          go_wp2_with fail
          go_roundw
          case rel => exact ⟨k + 1, by omega, by go_num, by rw [genL_succ]; exact hownj, hbj⟩
          case measure => simp [intOf]; omega
    · obtain rfl : k = shN t := by omega
      have hle := genL_le W wl t.length (shN t)
      have hdg : shN t * t.length ≤ 5 * 2 := Nat.mul_le_mul d5 hg2
      go_wp2_with fail
      go_ret
      exact ⟨_, rfl, RdB.rd (own_rds hown (by unfold maxLen; omega)) (fun _ _ h => h), hb1.next hb⟩
end Go.Proofs.Ytikedhkibdeheaa
