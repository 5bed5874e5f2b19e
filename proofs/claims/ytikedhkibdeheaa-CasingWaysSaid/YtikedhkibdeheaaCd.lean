/- The walk of wind. -/
import Derived.Test.YtikedhkibdeheaaCc
import Derived.Laws.ResultCell
namespace Go.Proofs.Ytikedhkibdeheaa
open Go.RowKit
set_option linter.unusedVariables false

theorem lay_c (W : List Int) (hW : W.length = 22) (b : Nat) (A : Option Addr) (c : Nat) (l : List Int) (gi : Int) (hgi : gi = 0 ∨ gi = 1) (w : World) (hl : RdI w (.slice A l.length c) l) (hA : ∀ a, A = some a → a.block ≠ b)
    (h5 : l.length ≤ 5) (hx : l.all (hasB 5) = true) (hb : At w b 78 (ic W)) :
    Calls Try.prog 65 #[.pointer (some ⟨b, 0, none⟩), .int .i64 gi, .slice A l.length c] w fun e w' => e = .returned (.tuple #[]) ∧ At w' b 78 (ic (layS W gi.toNat l)) ∧ w.grownBy w' (some b) := by
  rcases hgi with rfl | rfl
  · exact lay_0 W hW b A c l w hl hA h5 hx hb
  · exact lay_1 W hW b A c l w hl hA h5 hx hb

theorem results_wind (tmps : Array Value) (w : World) (g : Nat) (W : List Int) (hW : W.length = 22) (h2 : tmps.getD 2 undef = .pointer (some ⟨g, 0, none⟩)) (hg : At w g 78 (ic W)) :
    (results Try.f47 tmps).run Try.prog w = .ok (.tuple #[.agg (ic W), tmps.getD 3 undef]) w := by
  exact results_row_tmp Try.results47 tmps w g _ _ _ h2 hg Try.underlying78 rfl (sizeW W hW)

set_option maxHeartbeats 2000000 in
theorem wind_no0 (A : Option Addr) (c : Nat) (t : List (List Int)) (w : World) (hm : t.length ≤ maxLen) (hL' : lettersB t.length = false) :
    Calls Try.prog 47 #[.slice A t.length c] w fun e w' => e = .returned (.tuple #[.agg (ic (windW t)), .bool (windB t)]) ∧ Keeps w w' := by
  unfold maxLen at hm
  have hf : windB t = false := by simp [windB, hL']
  have hF := Lib.hid hf
  clear hf
  go_enter Try.func47, Try.ntmps47
  go_wp2_with (first | (refine wpList_store_row rfl 78 _ _ rfl w.heap.size (ic (w0 0 0)) rfl rfl 78 (ic (w0 0 0)) (At.new w 78 (ic (w0 0 0))) (sizeW _ rfl) rfl (ic_one _) ?_) | (go_at_call 60; refine (isLetters_c _ _).mono ?_; rintro e w1 ⟨rfl, rfl⟩))
  refine bodyPost_ret (v := .tuple #[.agg (ic (w0 0 0)), .bool false]) (results_wind _ _ w.heap.size (w0 0 0) rfl rfl ((At.new w 78 (ic (w0 0 0))).row _)) rfl ?_
  exact ⟨by rw [windW, hF.out]; rfl, below_row (Keeps.alloc (Below.refl _ _) _) (Nat.le_refl _) _⟩

set_option maxHeartbeats 2000000 in
theorem wind_no1 (b off c : Nat) (t : List (List Int)) (A0 : Option Addr) (c0 : Nat) (l0 : List Int) (w : World) (hm : t.length ≤ maxLen) (hm0 : l0.length ≤ maxLen) (hL : lettersB t.length = true)
    (hcell : w.cell? ⟨b, off, none⟩ = some (.slice A0 l0.length c0)) (hlen0 : (t[0]?.getD []).length = l0.length) (hS' : sheetsB l0.length = false) :
    Calls Try.prog 47 #[.slice (some ⟨b, off, none⟩) t.length c] w fun e w' => e = .returned (.tuple #[.agg (ic (windW t)), .bool (windB t)]) ∧ Keeps w w' := by
  unfold maxLen at hm hm0
  have hpos : 0 < t.length := by simp [lettersB] at hL; omega
  have hf : windB t = false := by simp [windB, hlen0, hS']
  have hF := Lib.hid hf
  have hc1 : ∀ o, (w.alloc o).cell? ⟨b, off, none⟩ = some (.slice A0 l0.length c0) := fun o => cell_keep (o := off) hcell (Keeps.alloc (Below.refl _ w) o)
  clear hf hlen0 hcell
  go_enter Try.func47, Try.ntmps47
  go_wp2_with (first | (refine wpList_store_row rfl 78 _ _ rfl w.heap.size (ic (w0 0 0)) rfl rfl 78 (ic (w0 0 0)) (At.new w 78 (ic (w0 0 0))) (sizeW _ rfl) rfl (ic_one _) ?_) | (go_at_call 60; refine (isLetters_c _ _).mono ?_; rintro e w1 ⟨rfl, rfl⟩) | (go_at_call 36; refine (isSheets_c _ _).mono ?_; rintro e w1 ⟨rfl, rfl⟩))
  refine bodyPost_ret (v := .tuple #[.agg (ic (w0 0 0)), .bool false]) (results_wind _ _ w.heap.size (w0 0 0) rfl rfl ((At.new w 78 (ic (w0 0 0))).row _)) rfl ?_
  exact ⟨by rw [windW, hF.out]; rfl, below_row (Keeps.alloc (Below.refl _ _) _) (Nat.le_refl _) _⟩

set_option maxHeartbeats 2000000 in
theorem wind_yes (b off c : Nat) (t : List (List Int)) (A0 : Option Addr) (c0 : Nat) (l0 : List Int) (w : World) (ht : RdT w (.slice (some ⟨b, off, none⟩) t.length c) t) (hL : lettersB t.length = true)
    (hcell : w.cell? ⟨b, off, none⟩ = some (.slice A0 l0.length c0)) (hlen0 : (t[0]?.getD []).length = l0.length) (hS : sheetsB l0.length = true) :
    Calls Try.prog 47 #[.slice (some ⟨b, off, none⟩) t.length c] w fun e w' => e = .returned (.tuple #[.agg (ic (windW t)), .bool (windB t)]) ∧ Keeps w w' := by
  have hlb : t.length ≤ 2 := by simp [lettersB] at hL; omega
  have hpos : 0 < t.length := by simp [lettersB] at hL; omega
  have hl1 : 1 ≤ l0.length ∧ l0.length ≤ 5 := by simp [sheetsB] at hS; omega
  obtain ⟨hl1, hl5⟩ := hl1
  obtain ⟨_, _, hv, hm, hcs⟩ := id ht
  cases hv
  have hc1 : ∀ o, (w.alloc o).cell? ⟨b, off, none⟩ = some (.slice A0 l0.length c0) := fun o => cell_keep (o := off) hcell (Keeps.alloc (Below.refl _ w) o)
  have H0 := Lib.hid hlen0
  clear hcell hm hlen0
  go_enter Try.func47, Try.ntmps47
  go_wp2_with (first | (refine wpList_store_row rfl 78 _ _ rfl (w.heap.size + 1) (ic (w0 t.length l0.length)) rfl rfl 78 (ic (w0 0 0)) (At.new2 w _ 78 (ic (w0 0 0))) (sizeW _ rfl) rfl (ic_one _) ?_) | (go_at_call 60; refine (isLetters_c _ _).mono ?_; rintro e w1 ⟨rfl, rfl⟩) | (go_at_call 36; refine (isSheets_c _ _).mono ?_; rintro e w1 ⟨rfl, rfl⟩))
  go_loopw [29] (fun i wr => ∃ k : Nat, k ≤ t.length ∧ i = .int .i64 k ∧ At wr w.heap.size 78 (ic (w0 0 0)) ∧ At wr (w.heap.size + 1) 78 (ic (windK t k)) ∧ (t.take k).all (colB l0.length) = true ∧ Below w.heap.size w wr) (fun i _ => t.length - (intOf i).toNat)
  case atStart =>
    exact ⟨0, Nat.zero_le _, rfl, (((At.new w 78 (ic (w0 0 0))).alloc _)).rowfar (by omega) _, by
      have := (At.new2 w (.cells (ic (w0 0 0)) 78) 78 (ic (w0 0 0))).row (ic (w0 t.length l0.length))
      rw [← H0.out] at this ⊢
      exact this, rfl, below_row (Keeps.alloc (Keeps.alloc (Below.refl _ _) _) _) (by omega) _⟩
  case round =>
    obtain ⟨k, hk, rfl, hz0, hwk, hall, hb⟩ := hrel
    by_cases hlt : k < t.length
    · obtain ⟨b', off', u, hA, hcell0, lk, hlk, hrk⟩ := hcs k hlt
      cases hA
      have hcell := cell_keep hcell0 hb
      obtain ⟨Ak, ck, rfl, hmk, hcsk⟩ := id hrk
      have hrk' := RdI.below hrk hb
      have hd5 : nth (windK t k) 1 ≤ 5 := by rw [windK_nth1, H0.out]; omega
      have hd1 : nth (windK t k) 1 = l0.length := by rw [windK_nth1, H0.out]
      have Hd1 := Lib.hid hd1
      have Hlk := Lib.hid hlk
      have Hall := Lib.hid hall
      unfold maxLen at hmk
      clear hcs hcell0 hd1 hlk hall hcsk hc1
      have hk01 : (k : Int) = 0 ∨ (k : Int) = 1 := by omega
      by_cases hcol : colB (nth (windK t k) 1) lk = true
      · have hcp := colB_parts _ _ hcol
        have h5 : lk.length ≤ 5 := by omega
        have hx5 := hasB_5 _ hd5 lk hcp.2.1
        have hAk : ∀ a, Ak = some a → a.block ≠ w.heap.size + 1 := fun a ha => by
          have := RdI.block hrk (by have := hcp.1; rw [Hd1.out] at this; omega) a ha
          omega
        clear hcp
        go_wp2_with (first | (refine wpList_load_row rfl 78 _ rfl (w.heap.size + 1) rfl 78 (ic (windK t k)) (0, 0) _ hwk Try.underlying78 rfl (sizeW _ (windK_length t k)) ?_) | (go_at_call 69; refine (isColumn_c (windK t k) (windK_length t k) hd5 _ lk wr hrk').mono ?_; rintro e w1 ⟨rfl, hb1⟩) | (go_at_call 65; refine (lay_c (windK t k) (windK_length t k) (w.heap.size + 1) Ak ck lk k hk01 w1 (RdI.below hrk' hb1) hAk h5 hx5 (hwk.later hb1)).mono ?_; rintro e w2 ⟨rfl, hwk2, hg2⟩))
        go_roundw
        case rel =>
          exact ⟨k + 1, by omega, by go_num, (hz0.later hb1).grown hg2 (by simp), by rw [windK_succ, Hlk.out]; exact hwk2, take_all t k lk Hlk.out Hall.out (by rw [← Hd1.out]; exact hcol), below_grown (Keeps.next hb hb1) hg2 (by omega) (by have := hb.size; have := hb1.size; omega)⟩
        case measure => simp [intOf]; omega
      · have hcol' : colB (nth (windK t k) 1) lk = false := by simpa using hcol
        have hF : windB t = false := windB_col t k lk Hlk.out (by rw [H0.out, ← Hd1.out]; exact hcol')
        have HF := Lib.hid hF
        clear hF
        go_wp2_with (first | (refine wpList_load_row rfl 78 _ rfl (w.heap.size + 1) rfl 78 (ic (windK t k)) (0, 0) _ hwk Try.underlying78 rfl (sizeW _ (windK_length t k)) ?_) | (refine wpList_store_row rfl 78 _ _ rfl w.heap.size (ic (w0 0 0)) rfl rfl 78 (ic (w0 0 0)) (hz0.later hb1) (sizeW _ rfl) rfl (ic_one _) ?_) | (go_at_call 69; refine (isColumn_c (windK t k) (windK_length t k) hd5 _ lk wr hrk').mono ?_; rintro e w1 ⟨rfl, hb1⟩))
        refine bodyPost_ret (v := .tuple #[.agg (ic (w0 0 0)), .bool false]) (results_wind _ _ w.heap.size (w0 0 0) rfl rfl ((hz0.later hb1).row _)) rfl ?_
        exact ⟨by rw [windW, HF.out]; rfl, below_row (Keeps.next hb hb1) (Nat.le_refl _) _⟩
    · have hkl : k = t.length := by omega
      have HK := Lib.hid hkl
      have Hall := Lib.hid hall
      have H1 := Lib.hid (windB_yes t l0.length hL (by rw [H0.out]) hS (by rw [← List.take_of_length_le (i := k) (l := t) (by omega)]; exact hall))
      clear hkl hall hcs hc1
      go_wp2_with (first | (refine wpList_load_row rfl 78 _ rfl (w.heap.size + 1) rfl 78 (ic (windK t k)) (0, 0) _ hwk Try.underlying78 rfl (sizeW _ (windK_length t k)) ?_) | (refine wpList_store_row rfl 78 _ _ rfl w.heap.size (ic (windK t k)) rfl rfl 78 (ic (w0 0 0)) hz0 (sizeW _ (windK_length t k)) (by rw [ic_size, ic_size, windK_length]; rfl) (ic_one _) ?_))
      refine bodyPost_ret (v := .tuple #[.agg (ic (windK t k)), .bool true]) (results_wind _ _ w.heap.size (windK t k) (windK_length t k) rfl (hz0.row _)) rfl ?_
      exact ⟨by rw [windW, H1.out, HK.out]; rfl, below_row hb (Nat.le_refl _) _⟩

theorem wind_c (v : Value) (t : List (List Int)) (w : World) (ht : RdT w v t) :
    Calls Try.prog 47 #[v] w fun e w' => e = .returned (.tuple #[.agg (ic (windW t)), .bool (windB t)]) ∧ Keeps w w' := by
  obtain ⟨A, c, rfl, hm, hcs⟩ := id ht
  by_cases hL : lettersB t.length = true
  · have hpos : 0 < t.length := by simp [lettersB] at hL; omega
    obtain ⟨b, off, u, rfl, hcell0, l0, hl0, hr0⟩ := hcs 0 hpos
    obtain ⟨A0, c0, rfl, hm0, _⟩ := id hr0
    have hlen0 : (t[0]?.getD []).length = l0.length := by rw [hl0]; rfl
    by_cases hS : sheetsB l0.length = true
    · exact wind_yes b off c t A0 c0 l0 w ht hL hcell0 hlen0 hS
    · exact wind_no1 b off c t A0 c0 l0 w hm hm0 hL hcell0 hlen0 (by simpa using hS)
  · exact wind_no0 A c t w hm (by simpa using hL)
end Go.Proofs.Ytikedhkibdeheaa
