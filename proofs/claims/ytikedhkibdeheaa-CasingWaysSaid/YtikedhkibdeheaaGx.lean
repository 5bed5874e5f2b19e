/- The walk of Generators. -/
import Derived.Test.YtikedhkibdeheaaGw
import Derived.Test.YtikedhkibdeheaaGd
import Derived.Test.YtikedhkibdeheaaCd
import Derived.Test.YtikedhkibdeheaaCi
import Derived.Deep.RegionHeld3
namespace Go.Proofs.Ytikedhkibdeheaa
open Go.RowKit

theorem load_row_w {P : Program} {ops : Array Oper} {rest : List Oper} {o : Oper} {a : Act} {w : World} {Q : Exit → Act → World → Prop} (hw : Region.wanted o (yielded ops a.tmps) = true) (ty : TypeId) (x : Operand) (ho : o.op = .load ty x)
    (g : Nat) (hx : a.eval x = .pointer (some ⟨g, 0, none⟩)) (t : TypeId) (cs : Array Value) (fr : Nat × Nat) (d : TypeDesc) (hg : w.heap[g]? = some (.cells cs t fr))
    (hu : P.underlying ty = some d) (hd : (match d with | .struct _ | .array _ _ => true | _ => false) = true) (hi : (P.info? ty).map (·.size) = some cs.size)
    (h : wpList P ops Q rest (a.put o.dst (.agg cs)) w) : wpList P ops Q (o :: rest) a w :=
  wpList_step fun _ hK => by rw [if_pos hw]; exact wp_load_row ty x ho g hx t cs fr d hg hu hd hi (hK _ _ h)

theorem three_rd (w : World) (a b c : ByteArray) : RdS (w.alloc (.cells #[.string a, .string b, .string c] 9)) (.slice (some ⟨w.heap.size, 0, none⟩) 3 3) [a, b, c] := by
  refine ⟨some ⟨w.heap.size, 0, none⟩, 3, rfl, by unfold maxLen; simp, fun k hk => ?_⟩
  have hk3 : k < 3 := hk
  have hc := (At.new w 9 #[.string a, .string b, .string c]).cell (0 + k)
  obtain rfl | rfl | rfl : k = 0 ∨ k = 1 ∨ k = 2 := by omega
  · exact ⟨w.heap.size, 0, .string a, rfl, hc, a, rfl, rfl⟩
  · exact ⟨w.heap.size, 0, .string b, rfl, hc, b, rfl, rfl⟩
  · exact ⟨w.heap.size, 0, .string c, rfl, hc, c, rfl, rfl⟩
theorem joined_three (a b c : List UInt8) : joined [(⟨a.toArray⟩ : ByteArray), ⟨b.toArray⟩, ⟨c.toArray⟩] = a ++ b ++ c := by simp [joined]
theorem strs_append (a b : List (List UInt8)) : strs (a ++ b) = strs a ++ strs b := by simp [strs]
theorem strs_one (l : List (List UInt8)) : (strs l).length = l.length := by simp [strs]
theorem all_two (g : Int) (l : List UInt8) (h : l.all (okL g) = true) : l.all (okL 2) = true := by
  rw [List.all_eq_true] at h ⊢; exact fun x hx => okL_two g x (h x hx)
theorem own_rds {w : World} {base : Nat} {e : TypeId} {v : Value} {l : List (List UInt8)} (h : w.ownsRow base e 1 v l.length (strs l)) (hm : l.length ≤ maxLen) : RdSB (fun r => base ≤ r) w v (l.map fun l => (⟨l.toArray⟩ : ByteArray)) := by
  unfold RdSB
  rw [List.length_map]
  exact own_list h hm (fun i u hu => by
    rw [strs, List.getElem?_map] at hu
    rw [List.getElem?_map]
    cases h : l[i]? with
    | none => rw [h] at hu; cases hu
    | some x => rw [h] at hu; cases hu; exact ⟨_, rfl, rfl⟩)
theorem inv_all (l : List UInt8) (h : l.all (okL 2) = true) : (inv l).all (okL 2) = true := by
  rw [List.all_eq_true] at h ⊢
  intro x hx
  simp only [inv, List.mem_reverse, List.mem_map] at hx
  obtain ⟨y, hy, rfl⟩ := hx
  exact okL_opp 2 y (h y hy)
theorem inv_length (l : List UInt8) : (inv l).length = l.length := by simp [inv]
theorem str_ne (l : List UInt8) (h : l ≠ []) : ((⟨l.toArray⟩ : ByteArray) != ⟨#[]⟩) = true := by
  cases l with
  | nil => exact absurd rfl h
  | cons x l => rfl

set_option maxHeartbeats 2000000 in
set_option maxRecDepth 100000 in
theorem generators_yes (v : Value) (t : List (List Int)) (hB : windB t = true) (hS : stdB (windW t) = true) (w : World) (ht : RdT w v t) :
    Calls Try.prog 25 #[v] w fun e w' => ∃ u, e = .returned (.tuple #[u, .int .i64 0]) ∧ RdSB (fun r => w.heap.size ≤ r) w' u ((gensT t).map fun l => (⟨l.toArray⟩ : ByteArray)) ∧ Keeps w w' := by
  obtain ⟨hg12, d1, d5, _⟩ := windB_parts t hB
  have hWd := windW_okd t hB
  have hW : wok (windW t) := wokd_wok hWd (by omega)
  have hg : nth (windW t) 0 = 1 ∨ nth (windW t) 0 = 2 := by rw [windW_nth0 t hB]; omega
  have hlen := stdB_len t hB hS
  have hwind := wind_c v t w ht
  have hstd := fun x => isStandard_c (windW t) hW hg x
  have hway := fun x => ways_c (windW t) hW hg (shN t) (windW_nth1 t hB) d1 d5 hlen x
  have hn0 := windW_nth0 t hB
  have hn1 := windW_nth1 t hB
  have hnum := numS_p (sg (windW t)) (2 * nth (windW t) 0).toNat 0
  rw [hB] at hwind
  rw [hS] at hstd
  have hsz22 := windW_length t
  obtain ⟨i0, hi, hz0, hz1, hz2⟩ := info_parts infoS
  unfold gensT
  generalize hWW : windW t = W at *
  generalize numS (sg W) (2 * nth W 0).toNat 0 = L at *
  generalize shN t = d at *
  generalize t.length = g at *
  clear hWW hB hS ht
  go_enter Try.func25, Try.ntmps25
  go_wp2_with (
    first
    | (go_at_call 47; refine hwind.mono ?_; rintro e w1 ⟨rfl, hb1⟩)
    | (
      refine wpList_store_row rfl 78 _ _ rfl w1.heap.size (ic W) rfl rfl 78 (ic (w0 0 0)) (At.new w1 78 (ic (w0 0 0))) (sizeW _ hW.1) (by rw [ic_size, ic_size, hW.1]; rfl) (ic_one _) ?_
      change wpList _ _ _ _ _ ((w1.alloc (.cells (ic (w0 0 0)) 78)).setRow w1.heap.size (ic W))
      have hx1 := (At.new w1 78 (ic (w0 0 0))).row (ic W)
      have hkx : Keeps w ((w1.alloc (.cells (ic (w0 0 0)) 78)).setRow w1.heap.size (ic W)) := below_row (Keeps.alloc hb1 _) hb1.size _
      have hgb := hb1.size
      have hltx := hx1.lt
      generalize (w1.alloc (.cells (ic (w0 0 0)) 78)).setRow w1.heap.size (ic W) = X at *
      generalize w1.heap.size = gb at *)
    | (refine wpList_load_row rfl 78 _ rfl gb rfl 78 (ic W) (0, 0) _ hx3 Try.underlying78 rfl (sizeW W hW.1) ?_)
    | (refine load_row_w rfl 78 _ rfl gb rfl 78 (ic W) (0, 0) _ hx1 Try.underlying78 rfl (sizeW W hW.1) ?_)
    | (go_at_call 48; refine (hstd _).mono ?_; rintro e w2 ⟨rfl, hb2⟩; have hx3 := hx1.later hb2; have hk2 := Keeps.next hkx hb2)
    | (go_at_call 49; refine (hway _).mono ?_; rintro e w3 ⟨g1, rfl, hg1, hy4, hb3⟩; have hx4 := hx3.later hb3; have hk3 := Keeps.next hk2 hb3; have hc4 := hx4.int 1 (by rw [hW.1]; omega)))
  have hwl := fun k (hk : k < d) => wayL_ok (nth W 0) hg L (by have := hnum; rwa [show ((2 * nth W 0).toNat : Int) = 2 * nth W 0 by omega] at this) (d - 1) (by omega)
  have hwlen := wayL_length L (d - 1)
  have hcg := hx4.int 0 (by rw [hW.1]; omega)
  rw [hn0] at hcg
  generalize hwlE : wayL L (d - 1) = wl at *
  have HwlE := Lib.hid hwlE
  clear hwlE
  have hg2 : g ≤ 2 := by omega
  clear hx1 hx3 hkx hk2 hb1 hb2 hb3 hstd hway hwind hnum
  go_loopw [6, 28] (fun u i wr => ∃ k : Nat, k ≤ d ∧ i = .int .i64 k ∧ wr.ownsRow w3.heap.size 9 1 u (genL W wl g k).length (strs (genL W wl g k)) ∧ Below w3.heap.size w3 wr) (fun _ i _ => d - (intOf i).toNat)
  case atStart => exact ⟨0, Nat.zero_le _, rfl, World.ownsRow_nil _ _ _ _, Below.refl _ _⟩
  case round =>
    obtain ⟨k, hk, rfl, hown, hb⟩ := hrel
    by_cases hlt : k < d
    · have hown0 : World.ownsRow wr w3.heap.size 9 1 u6 (genL W wl g k ++ genS W wl k 0).length (strs (genL W wl g k ++ genS W wl k 0)) := by simpa [genS] using hown
      go_wp2_with fail
      go_loopw [6, 9] (fun u i wj => ∃ m : Nat, m ≤ g ∧ i = .int .i64 (2 * (m : Int)) ∧ wj.ownsRow w3.heap.size 9 1 u (genL W wl g k ++ genS W wl k m).length (strs (genL W wl g k ++ genS W wl k m)) ∧ Below w3.heap.size w3 wj) (fun _ i _ => 2 * g - (intOf i).toNat)
      case atStart => exact ⟨0, Nat.zero_le _, rfl, hown0, hb⟩
      case round =>
        obtain ⟨m, hm, rfl, hownj, hbj⟩ := hrel
        have hcj := cell_keep hcg hbj
        by_cases hml : m < g
        · have hxj := hx4.later hbj
          go_wp2_with (
            first
            | (refine load_row_w rfl 78 _ rfl gb rfl 78 (ic W) (0, 0) _ hxj Try.underlying78 rfl (sizeW W hW.1) ?_)
            | (go_at_call 50; refine (step_g W hW.1 k (2 * (m : Int)) (by omega) (by omega) (by omega) (by omega) wr).mono ?_; rintro e w4 ⟨rfl, hb4⟩))
          have hxw := hWd.2 (2 + (2 * (m : Int)).toNat * 5 + (k : Int).toNat) (by omega) (by omega)
          have hsg : sg W k (2 * (m : Int)) = nth W (2 + (2 * (m : Int)).toNat * 5 + (k : Int).toNat) := rfl
          rw [← hsg] at hxw
          have hgw : genW W wl k m = red ((wl[k]?.getD []) ++ [nm (2 * (m : Int))] ++ inv (wl[(sg W k (2 * (m : Int))).toNat]?.getD [])) := rfl
          obtain ⟨x0, xd⟩ := hxw
          obtain ⟨n, hn⟩ := Int.eq_ofNat_of_zero_le x0
          rw [hn] at hgw xd ⊢
          rw [Int.toNat_natCast] at hgw
          have hnd : n < d := by omega
          have hky := hy4.later (Keeps.next hbj hb4)
          have hmem : ∀ j, j < d → wl[j]?.getD [] ∈ wl := fun j hj => by rw [List.getElem?_eq_getElem (by omega)]; exact List.getElem_mem _
          have hck : w4.cell? ⟨g1, k, none⟩ = some (.string ⟨(wl[k]?.getD []).toArray⟩) := by rw [hky.cell, List.getElem?_toArray, strs, List.getElem?_map, List.getElem?_eq_getElem (by omega)]; rfl
          have hcn : w4.cell? ⟨g1, n, none⟩ = some (.string ⟨(wl[n]?.getD []).toArray⟩) := by rw [hky.cell, List.getElem?_toArray, strs, List.getElem?_map, List.getElem?_eq_getElem (by omega)]; rfl
          have hok1 := hwl k hlt _ (hmem k hlt)
          have hok2 := hwl n hnd _ (hmem n hnd)
          obtain ⟨hu1, hu2⟩ := hok1
          obtain ⟨hv1, hv2⟩ := hok2
          have hu2' := all_two (nth W 0) _ hu1
          have hv2' := all_two (nth W 0) _ hv1
          generalize wl[k]?.getD [] = ua at *
          generalize wl[n]?.getD [] = ub at *
          have Hgw := Lib.hid hgw
          clear hgw hn hsg
          obtain rfl | rfl : m = 0 ∨ m = 1 := by omega
          · have q1 : (⟨#[97, 65, 98, 66]⟩ : ByteArray).extract 0 1 = ⟨#[97]⟩ := ByteArray.ext (by rfl)
            have q2 : IntKind.i64.wrap 1 = 1 := by decide
            have hjo : joined [(⟨ua.toArray⟩ : ByteArray), ⟨#[97]⟩, ⟨(inv ub).toArray⟩] = ua ++ [97] ++ inv ub := by simp [joined]
            have hjl : (joined [(⟨ua.toArray⟩ : ByteArray), ⟨#[97]⟩, ⟨(inv ub).toArray⟩]).length ≤ 100000 := by rw [hjo]; simp [inv_length]; omega
            have hsm : small2 [(⟨ua.toArray⟩ : ByteArray), ⟨#[97]⟩, ⟨(inv ub).toArray⟩] := by
              intro s hs
              simp only [List.mem_cons, List.not_mem_nil, or_false] at hs
              rcases hs with rfl | rfl | rfl
              · exact hu2'
              · decide
              · exact inv_all ub hv2'
            have hinv := fun x => inverse_c ⟨ub.toArray⟩ hv2' (by show ub.toArray.size ≤ _; simp; omega) x
            have hred := fun x y hx => reduced_c y [(⟨ua.toArray⟩ : ByteArray), ⟨#[97]⟩, ⟨(inv ub).toArray⟩] hsm hjl x hx
            rw [hjo] at hred
            have Hg := Lib.hid (show red (ua ++ [97] ++ inv ub) = genW W wl k 0 from Hgw.out.symm)
            clear hjo hjl hsm Hgw
            go_wp2_with fail
            go_region_held3 (fun w' => w'.cell? ⟨g1, k, none⟩ = some (.string ⟨ua.toArray⟩) ∧ w'.cell? ⟨g1, n, none⟩ = some (.string ⟨ub.toArray⟩))
              (first | exact ⟨hck, hcn⟩ | exact ⟨cell_keep (w := w4.drew) hck hb5, cell_keep (w := w4.drew) hcn hb5⟩ | exact ⟨cell_keep (w := w4.drew) hck (Keeps.alloc hb5 _), cell_keep (w := w4.drew) hcn (Keeps.alloc hb5 _)⟩ | exact ⟨cell_keep (w := w4.drew) hck (Keeps.next (Keeps.alloc hb5 _) hb6), cell_keep (w := w4.drew) hcn (Keeps.next (Keeps.alloc hb5 _) hb6)⟩)
              (first
                | (go_at_call 52; refine (hinv _).mono ?_; rintro e w5 ⟨rfl, hb5⟩)
                | (go_at_call 51; refine (hred _ _ (three_rd w5 _ _ _)).mono ?_; rintro e w6 ⟨rfl, hb6⟩))
            rw [show red (ua ++ 97 :: inv ub) = genW W wl k 0 by rw [← Hg.out]; simp]
            have hk5 : Keeps wr w5 := Keeps.next (Below.drew hb4) hb5
            have hk6 : Keeps wr w6 := Keeps.next (Keeps.alloc hk5 _) hb6
            have hown6 := own_later hownj hk6
            have hb36 : Below w3.heap.size w3 w6 := Keeps.next hbj hk6
            have hsz6 := hb36.size
            have Hs := Lib.hid (show genL W wl g k ++ genS W wl k (0 + 1) = (genL W wl g k ++ genS W wl k 0) ++ (if genW W wl k 0 = [] then [] else [genW W wl k 0]) by rw [genS_succ, List.append_assoc])
            have hle6 : (genL W wl g k ++ genS W wl k 0).length ≤ 20 := by
              have h1 := genL_le W wl g k
              have h2 := genS_le W wl k 0
              have h3 : k * g ≤ 5 * 2 := Nat.mul_le_mul (by omega) hg2
              rw [List.length_append]; omega
            clear Hg hred hinv q1 q2
            generalize genL W wl g k ++ genS W wl k 0 = G at *
            by_cases hG : genW W wl k 0 = []
            · go_wp2_with fail
              go_roundw
              case rel => exact ⟨0 + 1, by omega, by go_num, by rw [Hs.out, if_pos hG, List.append_nil]; exact hown6, hb36⟩
              case measure => simp [intOf]; omega
            · have hne : (!(genW W wl k 0).isEmpty) = true := by simpa using hG
              go_wp2_with (at_builtin; refine wpList_append_own _ rfl _ _ 23 rfl w3.heap.size 9 i0 _ 1 16 Try.underlying23 hi hz0 hz1 hz2 rfl (by decide) _ G.length (strs G) rfl (hown6.alloc _) _ 1 1 [.string ⟨(genW W wl k 0).toArray⟩] rfl rfl (new_cells _ _ _ _ (by simp)) (by simp [Value.oneCell']) (by unfold maxLen; omega) (by omega) (by simp; omega) ?_; intro v' w7 hown7 hgrow7 _)
              go_roundw
              case rel => exact ⟨0 + 1, by omega, by go_num, by rw [Hs.out, if_neg hG, List.length_append, strs_append]; exact hown7, (hb36.alloc hsz6 _).grown hgrow7 (by simp; omega) (own_base hown6)⟩
              case measure => simp [intOf]; omega
          · have q1 : (⟨#[97, 65, 98, 66]⟩ : ByteArray).extract 2 3 = ⟨#[98]⟩ := ByteArray.ext (by rfl)
            have q2 : IntKind.i64.wrap 3 = 3 := by decide
            have hjo : joined [(⟨ua.toArray⟩ : ByteArray), ⟨#[98]⟩, ⟨(inv ub).toArray⟩] = ua ++ [98] ++ inv ub := by simp [joined]
            have hjl : (joined [(⟨ua.toArray⟩ : ByteArray), ⟨#[98]⟩, ⟨(inv ub).toArray⟩]).length ≤ 100000 := by rw [hjo]; simp [inv_length]; omega
            have hsm : small2 [(⟨ua.toArray⟩ : ByteArray), ⟨#[98]⟩, ⟨(inv ub).toArray⟩] := by
              intro s hs
              simp only [List.mem_cons, List.not_mem_nil, or_false] at hs
              rcases hs with rfl | rfl | rfl
              · exact hu2'
              · decide
              · exact inv_all ub hv2'
            have hinv := fun x => inverse_c ⟨ub.toArray⟩ hv2' (by show ub.toArray.size ≤ _; simp; omega) x
            have hred := fun x y hx => reduced_c y [(⟨ua.toArray⟩ : ByteArray), ⟨#[98]⟩, ⟨(inv ub).toArray⟩] hsm hjl x hx
            rw [hjo] at hred
            have Hg := Lib.hid (show red (ua ++ [98] ++ inv ub) = genW W wl k 1 from Hgw.out.symm)
            clear hjo hjl hsm Hgw
            go_wp2_with fail
            go_region_held3 (fun w' => w'.cell? ⟨g1, k, none⟩ = some (.string ⟨ua.toArray⟩) ∧ w'.cell? ⟨g1, n, none⟩ = some (.string ⟨ub.toArray⟩))
              (first | exact ⟨hck, hcn⟩ | exact ⟨cell_keep (w := w4.drew) hck hb5, cell_keep (w := w4.drew) hcn hb5⟩ | exact ⟨cell_keep (w := w4.drew) hck (Keeps.alloc hb5 _), cell_keep (w := w4.drew) hcn (Keeps.alloc hb5 _)⟩ | exact ⟨cell_keep (w := w4.drew) hck (Keeps.next (Keeps.alloc hb5 _) hb6), cell_keep (w := w4.drew) hcn (Keeps.next (Keeps.alloc hb5 _) hb6)⟩)
              (first
                | (go_at_call 52; refine (hinv _).mono ?_; rintro e w5 ⟨rfl, hb5⟩)
                | (go_at_call 51; refine (hred _ _ (three_rd w5 _ _ _)).mono ?_; rintro e w6 ⟨rfl, hb6⟩))
            rw [show red (ua ++ 98 :: inv ub) = genW W wl k 1 by rw [← Hg.out]; simp]
            have hk5 : Keeps wr w5 := Keeps.next (Below.drew hb4) hb5
            have hk6 : Keeps wr w6 := Keeps.next (Keeps.alloc hk5 _) hb6
            have hown6 := own_later hownj hk6
            have hb36 : Below w3.heap.size w3 w6 := Keeps.next hbj hk6
            have hsz6 := hb36.size
            have Hs := Lib.hid (show genL W wl g k ++ genS W wl k (1 + 1) = (genL W wl g k ++ genS W wl k 1) ++ (if genW W wl k 1 = [] then [] else [genW W wl k 1]) by rw [genS_succ, List.append_assoc])
            have hle6 : (genL W wl g k ++ genS W wl k 1).length ≤ 20 := by
              have h1 := genL_le W wl g k
              have h2 := genS_le W wl k 1
              have h3 : k * g ≤ 5 * 2 := Nat.mul_le_mul (by omega) hg2
              rw [List.length_append]; omega
            clear Hg hred hinv q1 q2
            generalize genL W wl g k ++ genS W wl k 1 = G at *
            by_cases hG : genW W wl k 1 = []
            · go_wp2_with fail
              go_roundw
              case rel => exact ⟨1 + 1, by omega, by go_num, by rw [Hs.out, if_pos hG, List.append_nil]; exact hown6, hb36⟩
              case measure => simp [intOf]; omega
            · have hne : (!(genW W wl k 1).isEmpty) = true := by simpa using hG
              go_wp2_with (at_builtin; refine wpList_append_own _ rfl _ _ 23 rfl w3.heap.size 9 i0 _ 1 16 Try.underlying23 hi hz0 hz1 hz2 rfl (by decide) _ G.length (strs G) rfl (hown6.alloc _) _ 1 1 [.string ⟨(genW W wl k 1).toArray⟩] rfl rfl (new_cells _ _ _ _ (by simp)) (by simp [Value.oneCell']) (by unfold maxLen; omega) (by omega) (by simp; omega) ?_; intro v' w7 hown7 hgrow7 _)
              go_roundw
              case rel => exact ⟨1 + 1, by omega, by go_num, by rw [Hs.out, if_neg hG, List.length_append, strs_append]; exact hown7, (hb36.alloc hsz6 _).grown hgrow7 (by simp; omega) (own_base hown6)⟩
              case measure => simp [intOf]; omega
        · have hmg : m = g := by omega
          rw [hmg, ← genL_succ] at hownj
          have hdv : 2 * (m : Int) = 2 * g := by omega
          rw [hdv]
          go_wp2_with fail
          go_roundw
          case rel => exact ⟨k + 1, by omega, by go_num, hownj, hbj⟩
          case measure => simp [intOf]; omega
    · have hkd : k = d := by omega
      rw [hkd] at hown
      have hle := genL_le W wl g d
      have hdg : d * g ≤ 5 * 2 := Nat.mul_le_mul d5 hg2
      go_wp2_with fail
      refine bodyPost_ret (results_tmp2 (t := 2) (u := 3) (by rfl) _ _ _) rfl ⟨_, rfl, ?_, hk3.trans (hb.mono (by have := hk3.size; omega))⟩
      have hrs := own_rds hown (by unfold maxLen; omega)
      rw [← HwlE.out] at hrs
      exact hrs.to (Holds.refl (fun _ => True) _) (fun b _ h => ⟨trivial, by have := hk3.size; omega⟩)

set_option maxHeartbeats 1000000 in
theorem generators_no1 (v : Value) (t : List (List Int)) (hB : windB t = false) (w : World) (ht : RdT w v t) :
    Calls Try.prog 25 #[v] w fun e w' => e = .returned (.tuple #[.slice none 0 0, .int .i64 2]) ∧ Keeps w w' := by
  have hwind := wind_c v t w ht
  rw [hB] at hwind
  have hsz22 := windW_length t
  generalize windW t = W at *
  go_enter Try.func25, Try.ntmps25
  go_wp2_with (
    first
    | (go_at_call 47; refine hwind.mono ?_; rintro e w1 ⟨rfl, hb1⟩)
    | (refine wpList_store_row rfl 78 _ _ rfl w1.heap.size (ic W) rfl rfl 78 (ic (w0 0 0)) (At.new w1 78 (ic (w0 0 0))) (sizeW _ hsz22) (by rw [ic_size, ic_size, hsz22]; rfl) (ic_one _) ?_))
  refine bodyPost_ret (results_tmp2 (t := 2) (u := 3) (by rfl) _ _ _) rfl ⟨rfl, below_row (Keeps.alloc hb1 _) hb1.size _⟩
set_option maxHeartbeats 1000000 in
theorem generators_no2 (v : Value) (t : List (List Int)) (hB : windB t = true) (hS : stdB (windW t) = false) (w : World) (ht : RdT w v t) :
    Calls Try.prog 25 #[v] w fun e w' => e = .returned (.tuple #[.slice none 0 0, .int .i64 2]) ∧ Keeps w w' := by
  obtain ⟨hg12, d1, d5, _⟩ := windB_parts t hB
  have hWd := windW_okd t hB
  have hW : wok (windW t) := wokd_wok hWd (by omega)
  have hg : nth (windW t) 0 = 1 ∨ nth (windW t) 0 = 2 := by rw [windW_nth0 t hB]; omega
  have hwind := wind_c v t w ht
  have hstd := fun x => isStandard_c (windW t) hW hg x
  rw [hB] at hwind
  rw [hS] at hstd
  generalize windW t = W at *
  go_enter Try.func25, Try.ntmps25
  go_wp2_with (
    first
    | (go_at_call 47; refine hwind.mono ?_; rintro e w1 ⟨rfl, hb1⟩)
    | (
      refine wpList_store_row rfl 78 _ _ rfl w1.heap.size (ic W) rfl rfl 78 (ic (w0 0 0)) (At.new w1 78 (ic (w0 0 0))) (sizeW _ hW.1) (by rw [ic_size, ic_size, hW.1]; rfl) (ic_one _) ?_
      change wpList _ _ _ _ _ ((w1.alloc (.cells (ic (w0 0 0)) 78)).setRow w1.heap.size (ic W))
      have hx1 := (At.new w1 78 (ic (w0 0 0))).row (ic W)
      have hkx : Keeps w ((w1.alloc (.cells (ic (w0 0 0)) 78)).setRow w1.heap.size (ic W)) := below_row (Keeps.alloc hb1 _) hb1.size _
      generalize (w1.alloc (.cells (ic (w0 0 0)) 78)).setRow w1.heap.size (ic W) = X at *
      generalize w1.heap.size = gb at *)
    | (refine load_row_w rfl 78 _ rfl gb rfl 78 (ic W) (0, 0) _ hx1 Try.underlying78 rfl (sizeW W hW.1) ?_)
    | (go_at_call 48; refine (hstd _).mono ?_; rintro e w2 ⟨rfl, hb2⟩))
  refine bodyPost_ret (results_tmp2 (t := 2) (u := 3) (by rfl) _ _ _) rfl ⟨rfl, Keeps.next hkx hb2⟩
def codeG (b : Bool) : Int := if b then 0 else 2
def gensR (t : List (List Int)) : List (List UInt8) := if gensB t then gensT t else []
theorem generators_c (v : Value) (t : List (List Int)) (w : World) (ht : RdT w v t) :
    Calls Try.prog 25 #[v] w fun e w' => ∃ u, e = .returned (.tuple #[u, .int .i64 (codeG (gensB t))]) ∧ RdSB (fun r => w.heap.size ≤ r) w' u ((gensR t).map fun l => (⟨l.toArray⟩ : ByteArray)) ∧ Keeps w w' := by
  by_cases hB : windB t = true
  · by_cases hS : stdB (windW t) = true
    · have : gensB t = true := by simp [gensB, hB, hS]
      rw [gensR, this]
      exact generators_yes v t hB hS w ht
    · have hS' : stdB (windW t) = false := by simpa using hS
      have : gensB t = false := by simp [gensB, hS']
      rw [gensR, this]
      refine (generators_no2 v t hB hS' w ht).mono ?_
      rintro e w' ⟨rfl, hb⟩
      exact ⟨_, rfl, ⟨none, 0, rfl, by unfold maxLen; simp, fun k hk => by simp at hk⟩, hb⟩
  · have hB' : windB t = false := by simpa using hB
    have : gensB t = false := by simp [gensB, hB']
    rw [gensR, this]
    refine (generators_no1 v t hB' w ht).mono ?_
    rintro e w' ⟨rfl, hb⟩
    exact ⟨_, rfl, ⟨none, 0, rfl, by unfold maxLen; simp, fun k hk => by simp at hk⟩, hb⟩
end Go.Proofs.Ytikedhkibdeheaa
