/- The law's copy of a presentation, and the reference's Group. -/
import Derived.Test.YtikedhkibdeheaaIb
import Derived.Test.YtikedhkibdeheaaFf
import Derived.Test.YtikedhkibdeheaaGx
namespace Go.Proofs.Ytikedhkibdeheaa
open Go.RowKit

theorem cap_form {v : Value} (h : Cap v) : ∃ A n c, v = .slice A n c ∧ n ≤ c := by
  match v, h with
  | .slice A n c, h => exact ⟨A, n, c, rfl, h⟩
/-- The copy's rules. -/
def briefs (rules : List ByteArray) : List ByteArray := (rules.take 7).map briefS
theorem briefs_length (rules : List ByteArray) : (briefs rules).length = min rules.length 7 := by simp [briefs]; omega
theorem briefs_snoc (rules : List ByteArray) (k : Nat) (r : ByteArray) (h : rules[k]? = some r) (hk : k < 7) : ((briefs rules).take (k + 1)).map Value.string = ((briefs rules).take k).map Value.string ++ [.string (briefS r)] := by
  have h1 : (briefs rules)[k]? = some (briefS r) := by simp [briefs, hk, h]
  obtain ⟨hl, he⟩ := List.getElem?_eq_some_iff.1 h1
  rw [List.take_succ_eq_append_getElem hl, he]; simp
theorem brief_size (s : ByteArray) : (briefS s).size ≤ 31 := by
  unfold briefS
  rw [ByteArray.size_extract]
  omega
theorem briefs_ok (rules : List ByteArray) : szOk (briefs rules) := by
  intro r hr
  obtain ⟨s, _, rfl⟩ := List.mem_map.1 hr
  have := brief_size s
  unfold maxLen; omega
theorem own_strings {w : World} {base : Nat} {e : TypeId} {v : Value} {l : List ByteArray} (h : w.ownsRow base e 1 v l.length (l.map Value.string)) (hm : l.length ≤ maxLen) : RdS w v l ∧ Cap v := by
  constructor
  · refine RdB.rd (own_list (P := fun i u => ∃ s, l[i]? = some s ∧ u = .string s) h hm (fun i u hu => ?_)) (fun _ _ h => h)
    rw [List.getElem?_map] at hu
    cases h : l[i]? with
    | none => rw [h] at hu; cases hu
    | some x => rw [h] at hu; cases hu; exact ⟨_, rfl, rfl⟩
  · rcases h.2 with ⟨rfl, h0⟩ | ⟨g, cap, cur, rfl, hb, hg, hc, _⟩
    · exact Nat.zero_le _
    · exact hc

theorem own_cell {w : World} {base : Nat} {e : TypeId} {size n : Nat} {v : Value} {xs : List Value} (h : w.ownsRow base e size v n xs) : v.oneCell' = true := by
  rcases h.2 with ⟨rfl, _⟩ | ⟨g, cap, cur, rfl, _⟩ <;> rfl
theorem grp_one (g : Int) (v : Value) (h : v.oneCell' = true) : (#[Value.int .i64 g, v] : Array Value).all (·.oneCell') = true := by
  rw [Array.all_eq_true_iff_forall_mem]
  intro x hx
  simp at hx
  rcases hx with rfl | rfl
  · rfl
  · exact h
theorem grp_ne : (25 : TypeId) ≠ 9 := by decide
theorem own_row {w : World} {base : Nat} {e : TypeId} {size n : Nat} {v : Value} {xs : List Value} (h : w.ownsRow base e size v n xs) {g : Nat} (hg : some g ≠ v.ownBlock) (cs : Array Value) : (w.setRow g cs).ownsRow base e size v n xs := by
  refine ⟨h.1, ?_⟩
  rcases h.2 with hn | ⟨g', cap, cur, rfl, hbg, hh, r⟩
  · exact .inl hn
  · exact .inr ⟨g', cap, cur, rfl, hbg, (setRow_other _ g g' cs (fun e => hg (by rw [e]; rfl))).trans hh, r⟩
theorem group_end (g : Int) (u : Value) (rules : List ByteArray) (k : Nat) (hk : k = (briefs rules).length) (tmps : Array Value) (w wr : World) (hown : wr.ownsRow w.heap.size 9 1 u k (((briefs rules).take k).map Value.string))
    (h1 : At wr (w.heap.size + 1) 25 #[.int .i64 0, .slice none 0 0]) (hb : Keeps w wr) (hs : (Try.prog.info? 25).map (·.size) = some (#[Value.int .i64 g, u] : Array Value).size) (h2 : tmps.getD 2 undef = .pointer (some ⟨w.heap.size + 1, 0, none⟩)) :
    bodyPost Try.prog Try.f18 (fun e w' => ∃ u, e = .returned (.agg #[.int .i64 g, u]) ∧ RdS w' u (briefs rules) ∧ Cap u ∧ Keeps w w') .ret ⟨tmps, []⟩ (wr.setRow (w.heap.size + 1) #[.int .i64 g, u]) := by
  have hown' := own_row hown (own_ne hown h1 grp_ne) #[.int .i64 g, u]
  subst hk
  rw [List.take_length] at hown'
  have hl := briefs_length rules
  obtain ⟨r1, r2⟩ := own_strings hown' (by unfold maxLen; omega)
  exact bodyPost_ret (results_cell_row Try.results18 _ _ (w.heap.size + 1) 25 _ (0, 0) _ h2 (h1.row _) Try.underlying25 rfl hs) rfl ⟨u, rfl, r1, r2, below_row hb (by omega) _⟩
set_option maxHeartbeats 2000000 in
set_option maxRecDepth 100000 in
theorem group_c (g : Int) (v : Value) (rules : List ByteArray) (hz : szOk rules) (w : World) (hv : RdS w v rules) :
    Calls Try.prog 18 #[.agg #[.int .i64 g, v]] w fun e w' => ∃ u, e = .returned (.agg #[.int .i64 g, u]) ∧ RdS w' u (briefs rules) ∧ Cap u ∧ Keeps w w' := by
  obtain ⟨A, c, rfl, hm, hcs⟩ := id hv
  unfold maxLen at hm
  obtain ⟨i0, hi, hz0, hz1, hz2⟩ := info_parts infoS
  have hbl := briefs_length rules
  go_enter Try.func18, Try.ntmps18
  go_wp2_with fail
  go_loopw [3, 4] (fun u i wr => ∃ k : Nat, k ≤ min rules.length 7 ∧ i = .int .i64 k ∧ wr.ownsRow w.heap.size 9 1 u k (((briefs rules).take k).map Value.string) ∧ At wr w.heap.size 25 #[.int .i64 g, .slice A rules.length c] ∧ At wr (w.heap.size + 1) 25 #[.int .i64 0, .slice none 0 0] ∧ Keeps w wr) (fun _ i _ => 7 - (intOf i).toNat)
  case atStart => exact ⟨0, Nat.zero_le _, rfl, World.ownsRow_nil _ _ _ _, (At.new _ _ _).alloc _, At.new2 _ _ _ _, Keeps.alloc (Keeps.alloc (Below.refl _ _) _) _⟩
  case round =>
    obtain ⟨k, hk, rfl, hown, h0, h1, hb⟩ := hrel
    have hc1 := h0.cell 1
    have hc0 := h0.cell 0
    have hsz := hb.size
    by_cases hlt : k < rules.length
    · by_cases h7 : k ≤ 6
      · obtain ⟨b, off, u, rfl, hcell0, r, hrk, rfl⟩ := hcs k hlt
        have hcell := cell_keep hcell0 hb
        have hrz := hz r (List.mem_of_getElem? hrk)
        have Hsn := Lib.hid (briefs_snoc rules k r hrk (by omega))
        have hbr := fun x => brief_c r hrz x
        clear hrk hcell0 hcs hv hbl
        generalize briefS r = br at *
        go_wp2_with (
          first
          | (go_at_call 41; refine (hbr _).mono ?_; rintro e w1 ⟨rfl, rfl⟩)
          | (at_builtin; refine wpList_append_own _ rfl _ _ 23 rfl w.heap.size 9 i0 _ 1 16 Try.underlying23 hi hz0 hz1 hz2 rfl (by decide) _ k _ rfl (hown.alloc _) _ 1 1 [.string br] rfl rfl (new_cells _ _ _ _ (by simp)) (by simp [Value.oneCell']) (by unfold maxLen; omega) (by omega) (by simp; omega) ?_; intro v' w4 hown4 hgrow4 _))
        go_roundw
        case rel => exact ⟨k + 1, by omega, by go_num, by rw [Hsn.out]; exact hown4, (h0.alloc _).grown hgrow4 (own_ne hown h0 grp_ne), (h1.alloc _).grown hgrow4 (own_ne hown h1 grp_ne), below_grown'' (Keeps.alloc hb _) hgrow4 (own_base hown) (by simp; omega)⟩
        case measure => simp [intOf]; omega
      · have Hk := Lib.hid (show k = (briefs rules).length by omega)
        have hone := own_cell hown
        have hsz1 := sizeG u3 g
        clear hcs hv hbl
        rcases Joins.ownsRow_forms hown with ⟨_, hk0⟩ | ⟨gg, cap, rfl⟩
        · omega
        · go_wp2_with (refine wpList_store_row rfl 25 _ _ rfl (w.heap.size + 1) _ rfl rfl 25 #[.int .i64 0, .slice none 0 0] h1 hsz1 rfl (grp_one g _ hone) ?_)
          refine group_end g _ rules k Hk.out _ w wr hown h1 hb hsz1 ?_
          rfl
    · have Hk := Lib.hid (show k = (briefs rules).length by omega)
      have hone := own_cell hown
      have hsz1 := sizeG u3 g
      clear hcs hv hbl
      rcases Joins.ownsRow_forms hown with ⟨rfl, _⟩ | ⟨gg, cap, rfl⟩
      all_goals
        go_wp2_with (refine wpList_store_row rfl 25 _ _ rfl (w.heap.size + 1) _ rfl rfl 25 #[.int .i64 0, .slice none 0 0] h1 hsz1 rfl (grp_one g _ hone) ?_)
        refine group_end g _ rules k Hk.out _ w wr hown h1 hb hsz1 ?_
        rfl
end Go.Proofs.Ytikedhkibdeheaa
