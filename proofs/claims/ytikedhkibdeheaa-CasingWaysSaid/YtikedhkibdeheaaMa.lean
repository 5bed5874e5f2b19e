/- The laws' own helpers: mod, word, rules. -/
import Derived.Test.YtikedhkibdeheaaJb
namespace Go.Proofs.Ytikedhkibdeheaa
open Go.RowKit
set_option linter.unusedVariables false

def modN (x n : Int) : Int := (x % 18446744073709551616) % n

theorem mod_eq (x n : Int) (h1 : 1 ≤ n) (h2 : n ≤ 1000) : wrap64 ((IntKind.u64.wrap x).tmod n) = modN x n := by
  have hw : IntKind.u64.wrap x = x % 18446744073709551616 := by simp [IntKind.wrap, IntKind.signed, IntKind.bits]
  have h0 : 0 ≤ x % 18446744073709551616 := Int.emod_nonneg _ (by omega)
  have h3 : (x % 18446744073709551616).tmod n = modN x n := by rw [modN, Int.tmod_eq_emod_of_nonneg h0]
  have h4 : 0 ≤ modN x n := Int.emod_nonneg _ (by omega)
  have h5 : modN x n < n := Int.emod_lt_of_pos _ (by omega)
  rw [hw, h3]
  simp only [wrap64]
  omega
theorem modN_in (x n : Int) (h1 : 1 ≤ n) : 0 ≤ modN x n ∧ modN x n < n := ⟨Int.emod_nonneg _ (by omega), Int.emod_lt_of_pos _ (by omega)⟩
set_option maxHeartbeats 400000 in
theorem mod_c (x n : Int) (hx : (Lit.int .i64 x).wf = true) (h1 : 1 ≤ n) (h2 : n ≤ 1000) (w : World) :
    Calls Try.prog 9 #[.int .i64 x, .int .i64 n] w fun e w' => e = .returned (.int .i64 (modN x n)) ∧ w = w' := by
  go_enter Try.func9, Try.ntmps9
  go_wp2_with fail
  go_ret
  exact ⟨ret_int (mod_eq x n h1 h2), rfl⟩

/-- The letter that a byte becomes; the word that a string becomes. -/
def nmc (g : Nat) (c : UInt8) : UInt8 := (names[c.toNat % (2 * g)]?).getD 0
def wordL (g : Nat) (s : List UInt8) : List UInt8 := s.map (nmc g)
theorem wordL_snoc (g : Nat) (s : ByteArray) (k : Nat) (h : k < s.size) : wordL g (s.data.toList.take (k + 1)) = wordL g (s.data.toList.take k) ++ [nmc g s[k]] := by
  rw [take_snoc s k h]; simp [wordL]
theorem nmc_ok (g : Nat) (hg : g = 1 ∨ g = 2) (c : UInt8) : okL g (nmc g c) = true := by
  have h : c.toNat % (2 * g) < 2 * g := Nat.mod_lt _ (by omega)
  unfold nmc
  rcases hg with rfl | rfl
  · have : c.toNat % (2 * 1) = 0 ∨ c.toNat % (2 * 1) = 1 := by omega
    rcases this with e | e <;> rw [e] <;> decide
  · have : c.toNat % (2 * 2) = 0 ∨ c.toNat % (2 * 2) = 1 ∨ c.toNat % (2 * 2) = 2 ∨ c.toNat % (2 * 2) = 3 := by omega
    rcases this with e | e | e | e <;> rw [e] <;> decide
theorem wordL_ok (g : Nat) (hg : g = 1 ∨ g = 2) (s : List UInt8) : (wordL g s).all (okL g) = true := by
  rw [List.all_eq_true]; intro x hx
  obtain ⟨c, _, rfl⟩ := List.mem_map.1 hx
  exact nmc_ok g hg c
theorem wordL_length (g : Nat) (s : List UInt8) : (wordL g s).length = s.length := by simp [wordL]
theorem word_row (g r : Nat) (c : UInt8) (x : UInt8) (hr : c.toNat % (2 * g) = r) (hx : names[r]? = some x) : nmc g c = x := by
  unfold nmc; rw [hr, hx]; rfl

set_option maxHeartbeats 2000000 in
set_option maxRecDepth 100000 in
theorem word_c (g : Nat) (hg : g = 1 ∨ g = 2) (s : ByteArray) (hm : s.size ≤ maxLen) (n : Nat) (hn : n ≤ 100) (w : World) :
    Calls Try.prog 10 #[.string s, .int .i64 g, .int .i64 n] w fun e w' => e = .returned (.string ⟨(wordL g (s.data.toList.take n)).toArray⟩) ∧ Keeps w w' := by
  unfold maxLen at hm
  obtain ⟨i0, hi, hz0, hz1, hz2⟩ := info_parts infoB
  have hgI : ((g : Int)) = 1 ∨ (g : Int) = 2 := by omega
  have Hg := Lib.hid hg
  clear hg
  go_enter Try.func10, Try.ntmps10
  go_wp2_with fail
  go_loopw [7, 8] (fun u i wr => ∃ k : Nat, k ≤ s.size ∧ k ≤ n ∧ i = .int .i64 k ∧ wr.ownsRow w.heap.size 5 1 u (wordL g (s.data.toList.take k)).length (bytes (wordL g (s.data.toList.take k))) ∧ Keeps w wr) (fun _ i _ => n - (intOf i).toNat)
  case atStart => exact ⟨0, Nat.zero_le _, Nat.zero_le _, rfl, World.ownsRow_nil _ _ _ _, Below.refl _ _⟩
  case round =>
    obtain ⟨k, hk, hkn, rfl, hown, hb⟩ := hrel
    have hsz := hb.size
    by_cases hlt : k < s.size
    · by_cases hln : k < n
      · have Hsn := Lib.hid (wordL_snoc g s k hlt)
        have hlen : (wordL g (s.data.toList.take k)).length ≤ 100 := by rw [wordL_length, List.length_take]; omega
        generalize wordL g (s.data.toList.take k) = K at *
        have hc0 : 0 ≤ (s[k].toNat : Int) := by omega
        have hc1 : (s[k].toNat : Int) ≤ 255 := by have := s[k].toNat_lt; omega
        obtain ⟨r, x, hr, hrx⟩ : ∃ (r : Nat) (x : UInt8), s[k].toNat % (2 * g) = r ∧ names[r]? = some x ∧ r < 2 * g := by
          have h : s[k].toNat % (2 * g) < 2 * g := Nat.mod_lt _ (by have := Hg.out; omega)
          have h4 : s[k].toNat % (2 * g) < 4 := by have := Hg.out; omega
          exact ⟨_, names[s[k].toNat % (2 * g)]'(by simp [names]; omega), rfl, by simp, h⟩
        obtain ⟨hrx, hr2⟩ := hrx
        have Hx := Lib.hid (word_row g r s[k] x hr hrx)
        rcases Hg.out with rfl | rfl
        · have hrI : ((s[k].toNat : Int) % 2) = r := by omega
          have hr3 : r = 0 ∨ r = 1 := by omega
          clear hr hgI
          rcases hr3 with rfl | rfl
          · obtain rfl : x = 97 := by have : names[0]? = some (97 : UInt8) := rfl; rw [this] at hrx; exact (Option.some.inj hrx).symm
            clear hrx
            go_wp2_with (at_builtin; refine wpList_append_own _ rfl _ _ 63 rfl w.heap.size 5 i0 _ 1 1 Try.underlying63 hi hz0 hz1 hz2 rfl (by decide) _ _ _ rfl (hown.alloc _) _ 1 1 [.int .u8 97] rfl rfl (new_cells _ _ _ _ (by simp)) (by simp [Value.oneCell']) (by unfold maxLen; omega) (by omega) (by simp; omega) ?_; intro v' w4 hown4 hgrow4 _)
            go_roundw
            case rel => exact ⟨k + 1, by omega, by omega, by go_num, by rw [Hsn.out, Hx.out, List.length_append, bytes_append]; exact hown4, (Keeps.alloc hb _).grown hgrow4 (by simp; omega) (own_base hown)⟩
            case measure => simp [intOf]; omega
          · obtain rfl : x = 65 := by have : names[1]? = some (65 : UInt8) := rfl; rw [this] at hrx; exact (Option.some.inj hrx).symm
            clear hrx
            go_wp2_with (at_builtin; refine wpList_append_own _ rfl _ _ 63 rfl w.heap.size 5 i0 _ 1 1 Try.underlying63 hi hz0 hz1 hz2 rfl (by decide) _ _ _ rfl (hown.alloc _) _ 1 1 [.int .u8 65] rfl rfl (new_cells _ _ _ _ (by simp)) (by simp [Value.oneCell']) (by unfold maxLen; omega) (by omega) (by simp; omega) ?_; intro v' w4 hown4 hgrow4 _)
            go_roundw
            case rel => exact ⟨k + 1, by omega, by omega, by go_num, by rw [Hsn.out, Hx.out, List.length_append, bytes_append]; exact hown4, (Keeps.alloc hb _).grown hgrow4 (by simp; omega) (own_base hown)⟩
            case measure => simp [intOf]; omega
        · have hrI : ((s[k].toNat : Int) % 4) = r := by omega
          have hr3 : r = 0 ∨ r = 1 ∨ r = 2 ∨ r = 3 := by omega
          clear hr hgI
          rcases hr3 with rfl | rfl | rfl | rfl
          · obtain rfl : x = 97 := by have : names[0]? = some (97 : UInt8) := rfl; rw [this] at hrx; exact (Option.some.inj hrx).symm
            clear hrx
            go_wp2_with (at_builtin; refine wpList_append_own _ rfl _ _ 63 rfl w.heap.size 5 i0 _ 1 1 Try.underlying63 hi hz0 hz1 hz2 rfl (by decide) _ _ _ rfl (hown.alloc _) _ 1 1 [.int .u8 97] rfl rfl (new_cells _ _ _ _ (by simp)) (by simp [Value.oneCell']) (by unfold maxLen; omega) (by omega) (by simp; omega) ?_; intro v' w4 hown4 hgrow4 _)
            go_roundw
            case rel => exact ⟨k + 1, by omega, by omega, by go_num, by rw [Hsn.out, Hx.out, List.length_append, bytes_append]; exact hown4, (Keeps.alloc hb _).grown hgrow4 (by simp; omega) (own_base hown)⟩
            case measure => simp [intOf]; omega
          · obtain rfl : x = 65 := by have : names[1]? = some (65 : UInt8) := rfl; rw [this] at hrx; exact (Option.some.inj hrx).symm
            clear hrx
            go_wp2_with (at_builtin; refine wpList_append_own _ rfl _ _ 63 rfl w.heap.size 5 i0 _ 1 1 Try.underlying63 hi hz0 hz1 hz2 rfl (by decide) _ _ _ rfl (hown.alloc _) _ 1 1 [.int .u8 65] rfl rfl (new_cells _ _ _ _ (by simp)) (by simp [Value.oneCell']) (by unfold maxLen; omega) (by omega) (by simp; omega) ?_; intro v' w4 hown4 hgrow4 _)
            go_roundw
            case rel => exact ⟨k + 1, by omega, by omega, by go_num, by rw [Hsn.out, Hx.out, List.length_append, bytes_append]; exact hown4, (Keeps.alloc hb _).grown hgrow4 (by simp; omega) (own_base hown)⟩
            case measure => simp [intOf]; omega
          · obtain rfl : x = 98 := by have : names[2]? = some (98 : UInt8) := rfl; rw [this] at hrx; exact (Option.some.inj hrx).symm
            clear hrx
            go_wp2_with (at_builtin; refine wpList_append_own _ rfl _ _ 63 rfl w.heap.size 5 i0 _ 1 1 Try.underlying63 hi hz0 hz1 hz2 rfl (by decide) _ _ _ rfl (hown.alloc _) _ 1 1 [.int .u8 98] rfl rfl (new_cells _ _ _ _ (by simp)) (by simp [Value.oneCell']) (by unfold maxLen; omega) (by omega) (by simp; omega) ?_; intro v' w4 hown4 hgrow4 _)
            go_roundw
            case rel => exact ⟨k + 1, by omega, by omega, by go_num, by rw [Hsn.out, Hx.out, List.length_append, bytes_append]; exact hown4, (Keeps.alloc hb _).grown hgrow4 (by simp; omega) (own_base hown)⟩
            case measure => simp [intOf]; omega
          · obtain rfl : x = 66 := by have : names[3]? = some (66 : UInt8) := rfl; rw [this] at hrx; exact (Option.some.inj hrx).symm
            clear hrx
            go_wp2_with (at_builtin; refine wpList_append_own _ rfl _ _ 63 rfl w.heap.size 5 i0 _ 1 1 Try.underlying63 hi hz0 hz1 hz2 rfl (by decide) _ _ _ rfl (hown.alloc _) _ 1 1 [.int .u8 66] rfl rfl (new_cells _ _ _ _ (by simp)) (by simp [Value.oneCell']) (by unfold maxLen; omega) (by omega) (by simp; omega) ?_; intro v' w4 hown4 hgrow4 _)
            go_roundw
            case rel => exact ⟨k + 1, by omega, by omega, by go_num, by rw [Hsn.out, Hx.out, List.length_append, bytes_append]; exact hown4, (Keeps.alloc hb _).grown hgrow4 (by simp; omega) (own_base hown)⟩
            case measure => simp [intOf]; omega
      · have Hk := Lib.hid (show k = n by omega)
        have hst := str_own hown
        go_wp2_with fail
        go_ret
        exact ⟨by rw [← Hk.out]; rfl, hb⟩
    · have Hk := Lib.hid (show s.data.toList.take k = s.data.toList.take n by rw [List.take_of_length_le (by simp; omega), List.take_of_length_le (by simp; omega)])
      have hst := str_own hown
      go_wp2_with fail
      go_ret
      exact ⟨by rw [← Hk.out]; rfl, hb⟩

/-- The presentation that the laws make. -/
def rulesL (g : Nat) (l : List ByteArray) : List ByteArray := (l.take 6).map fun s => ⟨(wordL g (s.data.toList.take 10)).toArray⟩
theorem rulesL_length (g : Nat) (l : List ByteArray) : (rulesL g l).length = min l.length 6 := by simp [rulesL]; omega
theorem rulesL_snoc (g : Nat) (l : List ByteArray) (k : Nat) (r : ByteArray) (h : l[k]? = some r) (hk : k < 6) : ((rulesL g l).take (k + 1)).map Value.string = ((rulesL g l).take k).map Value.string ++ [.string ⟨(wordL g (r.data.toList.take 10)).toArray⟩] := by
  have h1 : (rulesL g l)[k]? = some ⟨(wordL g (r.data.toList.take 10)).toArray⟩ := by simp [rulesL, hk, h]
  obtain ⟨hl, he⟩ := List.getElem?_eq_some_iff.1 h1
  rw [List.take_succ_eq_append_getElem hl, he]; simp
theorem rulesL_ok (g : Nat) (hg : g = 1 ∨ g = 2) (l : List ByteArray) : groupB g (rulesL g l) = true := by
  have h1 : lettersB g = true := by rcases hg with rfl | rfl <;> rfl
  refine groupB_yes g _ h1 (by rw [rulesL_length]; omega) ?_
  rw [List.all_eq_true]
  intro r hr
  obtain ⟨s, _, rfl⟩ := List.mem_map.1 hr
  unfold wordB
  rw [Bool.and_eq_true, decide_eq_true_iff]
  refine ⟨?_, wordL_ok g hg _⟩
  show (wordL g _).length ≤ 30
  rw [wordL_length, List.length_take]; omega
theorem rulesL_sz (g : Nat) (l : List ByteArray) : szOk (rulesL g l) := by
  intro r hr
  obtain ⟨s, _, rfl⟩ := List.mem_map.1 hr
  show (wordL g _).toArray.size ≤ maxLen
  rw [List.size_toArray, wordL_length, List.length_take]; unfold maxLen; omega

theorem rules_end (g : Nat) (u : Value) (l : List ByteArray) (k : Nat) (hk : k = (rulesL g l).length) (tmps : Array Value) (w wr : World) (hown : wr.ownsRow w.heap.size 9 1 u k (((rulesL g l).take k).map Value.string))
    (h1 : At wr w.heap.size 25 #[.int .i64 0, .slice none 0 0]) (hb : Keeps w wr) (hs : (Try.prog.info? 25).map (·.size) = some (#[Value.int .i64 g, u] : Array Value).size) (h2 : tmps.getD 4 undef = .pointer (some ⟨w.heap.size, 0, none⟩)) :
    bodyPost Try.prog Try.f14 (fun e w' => ∃ u, e = .returned (.agg #[.int .i64 g, u]) ∧ RdS w' u (rulesL g l) ∧ Cap u ∧ Keeps w w') .ret ⟨tmps, []⟩ (wr.setRow w.heap.size #[.int .i64 g, u]) := by
  have hown' := own_row hown (own_ne hown h1 grp_ne) #[.int .i64 g, u]
  subst hk
  rw [List.take_length] at hown'
  have hl := rulesL_length g l
  obtain ⟨r1, r2⟩ := own_strings hown' (by unfold maxLen; omega)
  exact bodyPost_ret (results_cell_row Try.results14 _ _ w.heap.size 25 _ (0, 0) _ h2 (h1.row _) Try.underlying25 rfl hs) rfl ⟨u, rfl, r1, r2, below_row hb (Nat.le_refl _) _⟩

set_option maxHeartbeats 4000000 in
set_option maxRecDepth 100000 in
theorem rules_c (x : Int) (hx : (Lit.int .i64 x).wf = true) (g : Nat) (hg : (g : Int) = 1 + modN x 2) (v : Value) (l : List ByteArray) (hz : szOk l) (w : World) (hv : RdS w v l) :
    Calls Try.prog 14 #[.int .i64 x, v] w fun e w' => ∃ u, e = .returned (.agg #[.int .i64 g, u]) ∧ RdS w' u (rulesL g l) ∧ Cap u ∧ Keeps w w' := by
  obtain ⟨A, c, rfl, hm, hcs⟩ := id hv
  unfold maxLen at hm
  obtain ⟨i0, hi, hz0, hz1, hz2⟩ := info_parts infoS
  have hmod := fun y => mod_c x 2 hx (by omega) (by omega) y
  obtain ⟨m0, m1⟩ := modN_in x 2 (by omega)
  have hg12 : g = 1 ∨ g = 2 := by omega
  have hrl := rulesL_length g l
  have Hg12 := Lib.hid hg12
  generalize modN x 2 = md at *
  obtain ⟨md, rfl⟩ := Int.eq_ofNat_of_zero_le m0
  obtain rfl : g = 1 + md := by omega
  have hgi : IntKind.i64.wrap (1 + (md : Int)) = ((1 + md : Nat) : Int) := by rw [show (1 + (md : Int)) = ((1 + md : Nat) : Int) by omega]; exact IntWalk.i64_in _ (by omega)
  go_enter Try.func14, Try.ntmps14
  go_wp2_with (go_at_call 9; refine (hmod _).mono ?_; rintro e w1 ⟨rfl, rfl⟩)
  go_loopw [6] (fun i wr => ∃ (k : Nat) (u : Value), k ≤ min l.length 6 ∧ i = .int .i64 k ∧ At wr (w.heap.size + 1) 25 #[.int .i64 ((1 + md : Nat) : Int), u] ∧ At wr w.heap.size 25 #[.int .i64 0, .slice none 0 0] ∧ wr.ownsRow w.heap.size 9 1 u k (((rulesL (1 + md) l).take k).map Value.string) ∧ Keeps w wr) (fun i _ => 6 - (intOf i).toNat)
  case atStart => exact ⟨0, .slice none 0 0, by omega, rfl, by rw [show ((1 + md : Nat) : Int) = 1 + (md : Int) by omega]; exact At.new2 _ _ _ _, (At.new _ _ _).alloc _, World.ownsRow_nil _ _ _ _, Keeps.alloc (Keeps.alloc (Below.refl _ _) _) _⟩
  case round =>
    obtain ⟨k, u, hk, rfl, hat, hat0, hown, hb⟩ := hrel
    have hsz := hb.size
    by_cases hlt : k < l.length
    · by_cases h6 : k < 6
      · obtain ⟨b, off, x0, rfl, hcell0, r, hrk, rfl⟩ := hcs k hlt
        have hcell := cell_keep hcell0 hb
        have hrz := hz r (List.mem_of_getElem? hrk)
        have Hsn := Lib.hid (rulesL_snoc (1 + md) l k r hrk h6)
        have hwd := fun y => word_c (1 + md) Hg12.out r hrz 10 (by omega) y
        have hc0 := hat.cell 0
        have hc1 := hat.cell 1
        have hf1 := hat.frozen 1
        clear hrk hcell0 hcs hv
        generalize (⟨(wordL (1 + md) (r.data.toList.take 10)).toArray⟩ : ByteArray) = wd at *
        go_wp2_with fail
        have s4 : (k + 1) * 16 ≤ 140737488355328 := by omega
        have s5 : k + 1 ≤ maxLen := by unfold maxLen; omega
        go_region_law (
          first
          | (go_simp; go_at_call 10; refine (hwd _).mono ?_; rintro e w4 ⟨rfl, hb4⟩; have hk4 : Keeps w w4 := Keeps.next hb.drew hb4; have hown4 := own_later (show World.ownsRow wr.drew _ _ _ _ _ _ from hown) hb4; have hat4 := (At.drew hat).later hb4; have hat04 := (At.drew hat0).later hb4; have hs4 : w.heap.size ≤ (w4.alloc (.cells #[.string wd] 9)).heap.size := by have := hk4.size; simp; omega)
          | (refine step_append_lies _ rfl (.tmp 24) (.tmp 32) 23 rfl w.heap.size 9 i0 (.string ByteArray.empty) 1 16 Try.underlying23 hi hz0 hz1 hz2 rfl (by decide) u k _ rfl (hown4.alloc _) ⟨w4.heap.size, 0, none⟩ 1 1 [.string wd] rfl rfl (new_cells _ _ _ _ rfl) (by simp [Value.oneCell']) (by decide) s5 s4 hs4 (w4.heap.size + 1) (by simp) ?_; intro g5 cap5 w5 hown5 hgrow5 _ _; have hat5 := (hat4.alloc (.cells #[.string wd] 9)).grown hgrow5 (own_ne hown4 hat4 grp_ne); have hat05 := (hat04.alloc (.cells #[.string wd] 9)).grown hgrow5 (own_ne hown4 hat04 grp_ne); have hc5 := hat5.cell 1; have hf5 := hat5.frozen 1))
        all_goals
          go_wp2_with fail
          go_roundw
          case rel => exact ⟨k + 1, .slice (some ⟨g5, 0, none⟩) (k + 1) cap5, by omega, by go_num, by simpa using hat5.set 1 (.slice (some ⟨g5, 0, none⟩) (k + 1) cap5), hat05.far (by simp) _, by rw [Hsn.out]; exact own_set hown5 (own_ne hown5 hat5 grp_ne), (below_grown'' (Keeps.alloc hk4 _) hgrow5 (own_base hown4) (by have := hk4.size; simp; omega)).setCell (by simp) _⟩
          case measure => simp [intOf]; omega
      · have Hk := Lib.hid (show k = (rulesL (1 + md) l).length by omega)
        have hone := own_cell hown
        have hsz1 := sizeG u ((1 + md : Nat) : Int)
        clear hcs hv
        rcases Joins.ownsRow_forms hown with ⟨_, hk0⟩ | ⟨gg, cap, rfl⟩
        · omega
        · go_wp2_with (first | (refine wpList_load_row rfl 25 _ rfl (w.heap.size + 1) rfl 25 _ (0, 0) _ hat Try.underlying25 rfl hsz1 ?_) | (refine wpList_store_row rfl 25 _ _ rfl w.heap.size _ rfl rfl 25 #[.int .i64 0, .slice none 0 0] hat0 hsz1 rfl (grp_one _ _ hone) ?_))
          refine rules_end (1 + md) _ l k Hk.out _ w wr hown hat0 hb hsz1 ?_
          rfl
    · have Hk := Lib.hid (show k = (rulesL (1 + md) l).length by omega)
      have hone := own_cell hown
      have hsz1 := sizeG u ((1 + md : Nat) : Int)
      clear hcs hv
      rcases Joins.ownsRow_forms hown with ⟨rfl, _⟩ | ⟨gg, cap, rfl⟩
      all_goals
        go_wp2_with (first | (refine wpList_load_row rfl 25 _ rfl (w.heap.size + 1) rfl 25 _ (0, 0) _ hat Try.underlying25 rfl hsz1 ?_) | (refine wpList_store_row rfl 25 _ _ rfl w.heap.size _ rfl rfl 25 #[.int .i64 0, .slice none 0 0] hat0 hsz1 rfl (grp_one _ _ hone) ?_))
        refine rules_end (1 + md) _ l k Hk.out _ w wr hown hat0 hb hsz1 ?_
        rfl
end Go.Proofs.Ytikedhkibdeheaa
