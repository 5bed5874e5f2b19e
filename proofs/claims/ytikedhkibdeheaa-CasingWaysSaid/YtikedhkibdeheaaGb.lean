/- The walk of reduced. -/
import Derived.Test.YtikedhkibdeheaaGa
import Derived.Lib.SmallJoins
namespace Go.Proofs.Ytikedhkibdeheaa
open Go.RowKit

def redStep (K : List UInt8) (c : UInt8) : List UInt8 := if K.getLast? = some (opp c) then K.dropLast else K ++ [c]
def red (l : List UInt8) : List UInt8 := l.foldl redStep []
def joined (parts : List ByteArray) : List UInt8 := parts.flatMap fun s => s.data.toList
theorem redStep_le (K : List UInt8) (c : UInt8) : (redStep K c).length ≤ K.length + 1 := by
  unfold redStep; split <;> simp; omega
theorem red_go_le : ∀ (l K : List UInt8), (l.foldl redStep K).length ≤ K.length + l.length
  | [], K => by simp
  | c :: l, K => by have h := red_go_le l (redStep K c); have := redStep_le K c; simp only [List.foldl_cons, List.length_cons] at h ⊢; omega
theorem red_le (l : List UInt8) : (red l).length ≤ l.length := by have := red_go_le l []; simpa [red] using this
theorem red_snoc (l : List UInt8) (c : UInt8) : red (l ++ [c]) = redStep (red l) c := by simp [red]
theorem joined_snoc (parts : List ByteArray) (k : Nat) (s : ByteArray) (h : parts[k]? = some s) : joined (parts.take (k + 1)) = joined (parts.take k) ++ s.data.toList := by
  obtain ⟨hk, rfl⟩ := List.getElem?_eq_some_iff.1 h
  unfold joined; rw [List.take_succ_eq_append_getElem hk, List.flatMap_append]; simp
theorem joined_le (parts : List ByteArray) (k : Nat) : (joined (parts.take k)).length ≤ (joined parts).length := by
  have : joined parts = joined (parts.take k) ++ joined (parts.drop k) := by unfold joined; rw [← List.flatMap_append, List.take_append_drop]
  rw [this, List.length_append]; omega
theorem joined_part (parts : List ByteArray) (k : Nat) (s : ByteArray) (h : parts[k]? = some s) : (joined (parts.take k)).length + s.size ≤ (joined parts).length := by
  have := joined_le parts (k + 1)
  rw [joined_snoc parts k s h, List.length_append] at this
  simpa using this
theorem redStep_cut (K : List UInt8) (c x : UInt8) (h : x = opp c) : redStep (K ++ [x]) c = K := by simp [redStep, h]
theorem redStep_more (K : List UInt8) (c x : UInt8) (h : x ≠ opp c) : redStep (K ++ [x]) c = K ++ [x] ++ [c] := by simp [redStep, h]
theorem redStep_nil (c : UInt8) : redStep [] c = [c] := rfl
theorem own_cut {w : World} {base : Nat} {e : TypeId} {g n cap : Nat} {xs : List Value} {x : Value} (h : w.ownsRow base e 1 (.slice (some ⟨g, 0, none⟩) (n + 1) cap) (n + 1) (xs ++ [x])) :
    w.ownsRow base e 1 (.slice (some ⟨g, 0, none⟩) n cap) n xs := by
  have hx : xs.length = n := by have := h.1; simp at this; omega
  refine ⟨by omega, .inr ?_⟩
  rcases h.2 with ⟨h', _⟩ | ⟨g', cap', cur, h', hb, hg, hc, hm, hs, ht⟩
  · simp at h'
  · simp at h'
    obtain ⟨rfl, rfl⟩ := h'
    refine ⟨g, cap, cur, rfl, hb, hg, by omega, hm, hs, ?_⟩
    have : (cur.toList.take ((n + 1) * 1)).take n = (xs ++ [x]).take n := by rw [ht]
    rw [List.take_take, List.take_left' hx, Nat.min_eq_left (by omega)] at this
    rwa [Nat.mul_one]
theorem conc_own {w : World} {base : Nat} {e : TypeId} {v : Value} {K : List UInt8} {x : UInt8} (h : w.ownsRow base e 1 v (K.concat x).length (bytes (K.concat x))) : w.ownsRow base e 1 v (K.length + 1) (bytes K ++ [.int .u8 x.toNat]) := by
  rw [List.concat_eq_append, List.length_append, bytes_append] at h; exact h
def small2 (parts : List ByteArray) : Prop := ∀ s ∈ parts, s.data.toList.all (okL 2) = true

set_option maxHeartbeats 4000000 in
set_option maxRecDepth 100000 in
theorem reduced_c (v : Value) (parts : List ByteArray) (hs : small2 parts) (hz : (joined parts).length ≤ 100000) (w : World) (hv : RdS w v parts) :
    Calls Try.prog 51 #[v] w fun e w' => e = .returned (.string ⟨(red (joined parts)).toArray⟩) ∧ Keeps w w' := by
  obtain ⟨A, c, rfl, hm, hcs⟩ := id hv
  unfold maxLen at hm
  obtain ⟨i0, hi, hz0, hz1, hz2⟩ := info_parts infoB
  go_enter Try.func51, Try.ntmps51
  go_wp2_with fail
  go_loopw [3, 10] (fun u i wr => ∃ k : Nat, k ≤ parts.length ∧ i = .int .i64 k ∧ wr.ownsRow w.heap.size 5 1 u (red (joined (parts.take k))).length (bytes (red (joined (parts.take k)))) ∧ Keeps w wr) (fun _ i _ => parts.length - (intOf i).toNat)
  case atStart => exact ⟨0, Nat.zero_le _, rfl, World.ownsRow_nil _ _ _ _, Below.refl _ _⟩
  case round =>
    obtain ⟨k, hk, rfl, hown, hb⟩ := hrel
    by_cases hlt : k < parts.length
    · obtain ⟨b0, off, u, rfl, hcell0, s, hsk, rfl⟩ := hcs k hlt
      have hcell := cell_keep hcell0 hb
      have hok := hs s (List.mem_of_getElem? hsk)
      have hsz := joined_part parts k s hsk
      have Hj := Lib.hid (joined_snoc parts k s hsk)
      clear hsk hcell0
      generalize joined (parts.take k) = J at *
      have hown0 : wr.ownsRow w.heap.size 5 1 u3 (red (J ++ s.data.toList.take 0)).length (bytes (red (J ++ s.data.toList.take 0))) := by simpa using hown
      go_wp2_with fail
      go_loopw [3, 16] (fun u i wj => ∃ j : Nat, j ≤ s.size ∧ i = .int .i64 j ∧ wj.ownsRow w.heap.size 5 1 u (red (J ++ s.data.toList.take j)).length (bytes (red (J ++ s.data.toList.take j))) ∧ Keeps w wj) (fun _ i _ => s.size - (intOf i).toNat)
      case atStart => exact ⟨0, Nat.zero_le _, rfl, hown0, hb⟩
      case round =>
        obtain ⟨j, hj, rfl, hownj, hbj⟩ := hrel
        by_cases hjl : j < s.size
        · have hc : okL 2 s[j] = true := List.all_eq_true.1 hok _ (Array.mem_toList_iff.2 (Array.getElem_mem (xs := s.data) (i := j) hjl))
          have Hred := Lib.hid (show red (J ++ s.data.toList.take (j + 1)) = redStep (red (J ++ s.data.toList.take j)) s[j] by rw [take_snoc s j hjl, ← List.append_assoc, red_snoc])
          have hKl : (red (J ++ s.data.toList.take j)).length ≤ 100000 := by
            have h1 := red_le (J ++ s.data.toList.take j)
            have h2 : (J ++ s.data.toList.take j).length ≤ J.length + s.size := by simp; omega
            omega
          have hws := hbj.size
          generalize red (J ++ s.data.toList.take j) = K at *
          have hjs : j < s.size := hjl
          rcases List.eq_nil_or_concat K with rfl | ⟨K, x, rfl⟩
          · have hd : decide ((0 : Int) ≤ -1) = false := by decide
            rcases Joins.ownsRow_forms hownj with ⟨rfl, _⟩ | ⟨g, cap, rfl⟩
            all_goals
              go_wp2_with fail
              go_quiet (fail)
              go_wp2_with (at_builtin; refine wpList_append_own _ rfl _ _ 63 rfl w.heap.size 5 i0 _ 1 1 Try.underlying63 hi hz0 hz1 hz2 rfl (by decide) _ _ _ rfl ((show World.ownsRow (wr.drewN nq) _ _ _ _ _ _ from hownj).alloc _) _ 1 1 [.int .u8 s[j].toNat] rfl rfl (new_cells _ _ _ _ (by simp)) (by simp [Value.oneCell']) (by unfold maxLen; simp) (by simp) (by simp; omega) ?_; intro v' w4 hown4 hgrow4 _)
              go_roundw
              case rel => exact ⟨j + 1, by omega, by go_num, by rw [Hred.out, redStep_nil]; exact hown4, (Keeps.alloc (below_drewN hbj) _).grown hgrow4 (by simp; omega) (own_base hownj)⟩
              case measure => simp [intOf]; omega
          · have hown2 := conc_own hownj
            clear hownj
            obtain ⟨g, cap, rfl, hg1, hg2, hg3, hg4, hcells⟩ := own_form hown2 (by omega)
            have hcx : wr.cell? ⟨g, K.length, none⟩ = some (.int .u8 x.toNat) := hcells _ _ (by rw [List.getElem?_append_right (Nat.le_of_eq (bytes_length K)), bytes_length, Nat.sub_self]; rfl)
            have hK2 : K.length ≤ 99999 := by simp at hKl; omega
            have hK3 : K.length < K.length + 1 := by omega
            have hd : decide ((0 : Int) ≤ K.length) = true := by simp
            have hopp := fun x => opposite_c s[j] hc x
            by_cases hx : x = opp s[j]
            · have he : ((x.toNat : Int) == ((opp s[j]).toNat : Int)) = true := by rw [hx]; simp
              go_wp2_with fail
              go_quiet ((go_at_call 71; exact Calls.quiet_of_same (hopp _)))
              go_wp2_with fail
              go_roundw
              case rel => exact ⟨j + 1, by omega, by go_num, by rw [Hred.out, List.concat_eq_append, redStep_cut _ _ _ hx]; exact own_cut hown2, below_drewN hbj⟩
              case measure => simp [intOf]; omega
            · have he : ((x.toNat : Int) == ((opp s[j]).toNat : Int)) = false := by
                rw [beq_eq_false_iff_ne]; intro h; exact hx (UInt8.toNat_inj.1 (by omega))
              go_wp2_with fail
              go_quiet ((go_at_call 71; exact Calls.quiet_of_same (hopp _)))
              go_wp2_with (at_builtin; refine wpList_append_own _ rfl _ _ 63 rfl w.heap.size 5 i0 _ 1 1 Try.underlying63 hi hz0 hz1 hz2 rfl (by decide) _ _ _ rfl ((show World.ownsRow (wr.drewN nq) _ _ _ _ _ _ from hown2).alloc _) _ 1 1 [.int .u8 s[j].toNat] rfl rfl (new_cells _ _ _ _ (by simp)) (by simp [Value.oneCell']) (by unfold maxLen; omega) (by omega) (by simp; omega) ?_; intro v' w4 hown4 hgrow4 _)
              go_roundw
              case rel => exact ⟨j + 1, by omega, by go_num, by rw [Hred.out, List.concat_eq_append, redStep_more _ _ _ hx, List.length_append, bytes_append, List.length_append, bytes_append]; exact hown4, (Keeps.alloc (below_drewN hbj) _).grown hgrow4 (by simp; omega) (own_base hown2)⟩
              case measure => simp [intOf]; omega
        · have hje : j = s.size := by omega
          subst hje
          rw [List.take_of_length_le (by simp)] at hownj
          go_wp2_with fail
          go_roundw
          case rel => exact ⟨k + 1, by omega, by go_num, by rw [Hj.out]; exact hownj, hbj⟩
          case measure => simp [intOf]; omega
    · have hkl : k = parts.length := by omega
      subst hkl
      rw [List.take_length] at hown
      have hst := str_own hown
      go_wp2_with fail
      go_ret
      exact ⟨rfl, hb⟩
end Go.Proofs.Ytikedhkibdeheaa
