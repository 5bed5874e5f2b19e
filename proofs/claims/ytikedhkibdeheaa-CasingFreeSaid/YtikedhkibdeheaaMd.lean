/- The law on rules that forbid nothing. -/
import Derived.Test.YtikedhkibdeheaaNf
import Derived.Laws.Concat
namespace Go.Proofs.Ytikedhkibdeheaa
open Go.RowKit
set_option linter.unusedVariables false

set_option maxHeartbeats 4000000 in
set_option maxRecDepth 100000 in
theorem free_walk1 (x d : Int) (hx : (Lit.int .i64 x).wf = true) (hd : (Lit.int .i64 d).wf = true) (hmx : modN x 2 = 0) (s : ByteArray) (hs : s.size ≤ maxLen) (w : World) :
    Calls Try.prog 3 #[.int .i64 x, .int .i64 d, .string s] w fun e w' => e = .returned (.bool true) ∧ Keeps w w' := by
  have hmodx := fun y => mod_c x 2 hx (by omega) (by omega) y
  rw [hmx] at hmodx
  have hmodd := fun y => mod_c d 5 hd (by omega) (by omega) y
  obtain ⟨m0, m1⟩ := modN_in d 5 (by omega)
  generalize modN d 5 = md at *
  obtain ⟨md, rfl⟩ := Int.eq_ofNat_of_zero_le m0
  have hword : ∀ y, Calls Try.prog 10 #[.string s, .int .i64 1, .int .i64 10] y fun e w' => e = .returned (.string ⟨(wordL 1 (s.data.toList.take 10)).toArray⟩) ∧ Keeps y w' := fun y => word_c 1 (by omega) s hs 10 (by omega) y
  have hK := wordL_ok 1 (by omega) (s.data.toList.take 10)
  have hKl : (wordL 1 (s.data.toList.take 10)).length ≤ 10 := by rw [wordL_length, List.length_take]; omega
  generalize wordL 1 (s.data.toList.take 10) = K at *
  have hinv := fun y => rinv_c ⟨K.toArray⟩ (all_two _ _ hK) (by show K.toArray.size ≤ _; rw [List.size_toArray]; omega) y
  have hil : (inv K).length = K.length := by simp [inv]
  obtain ⟨KB, hKB⟩ : ∃ b : ByteArray, b = ⟨K.toArray⟩ := ⟨_, rfl⟩
  obtain ⟨IB, hIB⟩ : ∃ b : ByteArray, b = ⟨(inv K).toArray⟩ := ⟨_, rfl⟩
  obtain ⟨RB, hRB⟩ : ∃ b : ByteArray, b = ⟨(K ++ inv K).toArray⟩ := ⟨_, rfl⟩
  have hsK : KB.size ≤ 10 := by rw [hKB]; show K.toArray.size ≤ 10; rw [List.size_toArray]; exact hKl
  have hsI : IB.size ≤ 10 := by rw [hIB]; show (inv K).toArray.size ≤ 10; rw [List.size_toArray, hil]; exact hKl
  have hcat : KB ++ IB = RB := by
    rw [hKB, hIB, hRB]
    apply ByteArray.ext
    simp [ByteArray.data_append]
  have hgood : goodB 1 ((md : Int) + 1) [⟨(K ++ inv K).toArray⟩] = true := free_good 1 (by omega) ((md : Int) + 1) (by omega) K hK hKl
  have hcn : countN 1 ((md : Int) + 1) [⟨(K ++ inv K).toArray⟩] = (wins 1 (md + 1) []).length := by
    rw [countN, if_pos hgood]
    show ((wins 1 (((md : Int) + 1)).toNat [⟨(K ++ inv K).toArray⟩]).length : Int) = _
    rw [show (((md : Int) + 1)).toNat = md + 1 by omega, free_keeps 1 (md + 1) (by omega) (by omega) (by omega) K hK]
  have hcnt := fun y u hx => count_c 1 ((md : Int) + 1) u [⟨(K ++ inv K).toArray⟩] (by
    intro r hr; simp at hr; subst hr
    show (K ++ inv K).toArray.size ≤ maxLen
    rw [List.size_toArray, List.length_append, hil]; unfold maxLen; omega) y hx
  rw [hcn, show goodB 1 ((md : Int) + 1) [⟨(K ++ inv K).toArray⟩] = true from hgood, show codeN true = 0 from rfl] at hcnt
  rw [cyc_all (md + 1) (by omega) (by omega), show (([cycW (md + 1)] : List (List Int)).length : Int) = 1 from rfl] at hcnt
  rw [← hKB] at hword hinv
  have hinv' : ∀ y, Calls Try.prog 11 #[.string KB] y fun e w' => e = .returned (.string IB) ∧ Keeps y w' := fun y => by
    have := hinv y
    rw [show (inv KB.data.toList) = inv K by rw [hKB], ← hIB] at this
    exact this
  rw [← hRB] at hcnt
  have Hadd := Lib.hid (show KB.size + IB.size ≤ 9223372036854775807 by omega)
  have Hcat := Lib.hid hcat
  have hat0 := At.new w 25 #[.int .i64 1, .slice none 0 0]
  have hx0 := hat0.cell 0
  clear hinv hcn hgood hK hKl hil hKB hIB hRB m0 hmx hcat hsK hsI
  go_enter Try.func3, Try.ntmps3
  go_wp2_with (
    first
    | (go_at_call 9; refine (hmodx _).mono ?_; rintro e wm ⟨rfl, rfl⟩)
    | (go_at_call 10; refine (hword _).mono ?_; rintro e w1 ⟨rfl, hb1⟩; have hat1 := hat0.later hb1; have hk1 : Keeps w w1 := Keeps.next (Keeps.alloc (Below.refl _ w) _) hb1; clear hx0)
    | (
        go_at_call 11; refine (hinv' _).mono ?_; rintro e w2 ⟨rfl, hb2⟩; have hat2 := hat1.later hb2; have hk2 := Keeps.next hk1 hb2; have hc2 := (hat2.alloc (.cells #[.string RB] 9)).cell 1; have hf2 := (hat2.alloc (.cells #[.string RB] 9)).frozen 1; have hc3 := hat2.cell 1; have hf3 := hat2.frozen 1; have hsz2 := hat2.lt
        have hadd : (Op.stringOp .add KB IB).run Try.prog w2 = .ok (.string RB) w2 := (by rw [run_string_add_sum w2 KB IB Hadd.out, Hcat.out])
        have hatS0 : At (w2.setCell ⟨w.heap.size, 1, none⟩ (.slice (some ⟨w2.heap.size, 0, none⟩) 1 1)) w.heap.size 25 #[.int .i64 1, .slice (some ⟨w2.heap.size, 0, none⟩) 1 1] := by simpa using hat2.set 1 (.slice (some ⟨w2.heap.size, 0, none⟩) 1 1)
        have hatS := hatS0.alloc (.cells #[.string RB] 9)
        have hrS := one_at (At.new' (w2.setCell ⟨w.heap.size, 1, none⟩ (.slice (some ⟨w2.heap.size, 0, none⟩) 1 1)) w2.heap.size (by simp [World.setCell]) 9 #[.string RB])
        have hkS : Keeps w ((w2.setCell ⟨w.heap.size, 1, none⟩ (.slice (some ⟨w2.heap.size, 0, none⟩) 1 1)).alloc (.cells #[.string RB] 9)) := Keeps.alloc (hk2.setCell (Nat.le_refl _) _) _
        clear hatS0 hinv' hword hmodx)
    | (go_at_call 9; refine (hmodd _).mono ?_; rintro e wm ⟨rfl, rfl⟩)
    | (refine wpList_load_row rfl 25 _ rfl w.heap.size rfl 25 _ (0, 0) _ hatS Try.underlying25 rfl (sizeG _ _) ?_)
    | (go_at_call 12; refine (hcnt _ _ hrS).mono ?_; rintro e w5 ⟨rfl, hb5⟩; have hat5 := hatS.later hb5; have hk5 := Keeps.next hkS hb5; have hc50 := fun o : Obj => (hat5.alloc o).cell 0)
    | (go_at_call 13; refine (awake_c _).mono ?_; rintro e w7 ⟨rfl, hb7⟩; have hk7 := Keeps.next (Keeps.alloc hk5 _) hb7))
  go_ret
  exact ⟨rfl, hk7⟩

set_option maxHeartbeats 4000000 in
set_option maxRecDepth 100000 in
theorem free_walk2 (x d : Int) (hx : (Lit.int .i64 x).wf = true) (hd : (Lit.int .i64 d).wf = true) (hmx : modN x 2 = 1) (s : ByteArray) (hs : s.size ≤ maxLen) (w : World) :
    Calls Try.prog 3 #[.int .i64 x, .int .i64 d, .string s] w fun e w' => e = .returned (.bool true) ∧ Keeps w w' := by
  have hmodx := fun y => mod_c x 2 hx (by omega) (by omega) y
  rw [hmx] at hmodx
  have hmodd := fun y => mod_c d 5 hd (by omega) (by omega) y
  obtain ⟨m0, m1⟩ := modN_in d 5 (by omega)
  generalize modN d 5 = md at *
  obtain ⟨md, rfl⟩ := Int.eq_ofNat_of_zero_le m0
  have hword : ∀ y, Calls Try.prog 10 #[.string s, .int .i64 2, .int .i64 10] y fun e w' => e = .returned (.string ⟨(wordL 2 (s.data.toList.take 10)).toArray⟩) ∧ Keeps y w' := fun y => word_c 2 (by omega) s hs 10 (by omega) y
  have hK := wordL_ok 2 (by omega) (s.data.toList.take 10)
  have hKl : (wordL 2 (s.data.toList.take 10)).length ≤ 10 := by rw [wordL_length, List.length_take]; omega
  generalize wordL 2 (s.data.toList.take 10) = K at *
  have hinv := fun y => rinv_c ⟨K.toArray⟩ (all_two _ _ hK) (by show K.toArray.size ≤ _; rw [List.size_toArray]; omega) y
  have hil : (inv K).length = K.length := by simp [inv]
  obtain ⟨KB, hKB⟩ : ∃ b : ByteArray, b = ⟨K.toArray⟩ := ⟨_, rfl⟩
  obtain ⟨IB, hIB⟩ : ∃ b : ByteArray, b = ⟨(inv K).toArray⟩ := ⟨_, rfl⟩
  obtain ⟨RB, hRB⟩ : ∃ b : ByteArray, b = ⟨(K ++ inv K).toArray⟩ := ⟨_, rfl⟩
  have hsK : KB.size ≤ 10 := by rw [hKB]; show K.toArray.size ≤ 10; rw [List.size_toArray]; exact hKl
  have hsI : IB.size ≤ 10 := by rw [hIB]; show (inv K).toArray.size ≤ 10; rw [List.size_toArray, hil]; exact hKl
  have hcat : KB ++ IB = RB := by
    rw [hKB, hIB, hRB]
    apply ByteArray.ext
    simp [ByteArray.data_append]
  have hgood : goodB 2 ((md : Int) + 1) [⟨(K ++ inv K).toArray⟩] = true := free_good 2 (by omega) ((md : Int) + 1) (by omega) K hK hKl
  have hcn : countN 2 ((md : Int) + 1) [⟨(K ++ inv K).toArray⟩] = (wins 2 (md + 1) []).length := by
    rw [countN, if_pos hgood]
    show ((wins 2 (((md : Int) + 1)).toNat [⟨(K ++ inv K).toArray⟩]).length : Int) = _
    rw [show (((md : Int) + 1)).toNat = md + 1 by omega, free_keeps 2 (md + 1) (by omega) (by omega) (by omega) K hK]
  have hcnt := fun y u hx => count_c 2 ((md : Int) + 1) u [⟨(K ++ inv K).toArray⟩] (by
    intro r hr; simp at hr; subst hr
    show (K ++ inv K).toArray.size ≤ maxLen
    rw [List.size_toArray, List.length_append, hil]; unfold maxLen; omega) y hx
  rw [hcn, show goodB 2 ((md : Int) + 1) [⟨(K ++ inv K).toArray⟩] = true from hgood, show codeN true = 0 from rfl] at hcnt
  rw [free_two (md + 1) (by omega) (by omega)] at hcnt
  rw [← hKB] at hword hinv
  have hinv' : ∀ y, Calls Try.prog 11 #[.string KB] y fun e w' => e = .returned (.string IB) ∧ Keeps y w' := fun y => by
    have := hinv y
    rw [show (inv KB.data.toList) = inv K by rw [hKB], ← hIB] at this
    exact this
  rw [← hRB] at hcnt
  have Hadd := Lib.hid (show KB.size + IB.size ≤ 9223372036854775807 by omega)
  have Hcat := Lib.hid hcat
  have hat0 := At.new w 25 #[.int .i64 2, .slice none 0 0]
  have hx0 := hat0.cell 0
  clear hinv hcn hgood hK hKl hil hKB hIB hRB m0 hmx hcat hsK hsI
  have h5 : md = 0 ∨ md = 1 ∨ md = 2 ∨ md = 3 ∨ md = 4 := by omega
  rcases h5 with rfl | rfl | rfl | rfl | rfl
  · have hmodd' : ∀ y, Calls Try.prog 9 #[.int .i64 d, .int .i64 5] y fun e w' => e = .returned (.int .i64 0) ∧ y = w' := hmodd
    have hcnt' : ∀ (y : World) (u : Value), RdS y u [RB] → Calls Try.prog 12 #[.agg #[.int .i64 2, u], .int .i64 1] y fun e w' => e = .returned (.tuple #[.int .i64 1, .int .i64 0]) ∧ Keeps y w' := hcnt
    clear hmodd hcnt m1
    go_enter Try.func3, Try.ntmps3
    go_wp2_with (
      first
      | (go_at_call 9; refine (hmodx _).mono ?_; rintro e wm ⟨rfl, rfl⟩)
      | (go_at_call 10; refine (hword _).mono ?_; rintro e w1 ⟨rfl, hb1⟩; have hat1 := hat0.later hb1; have hk1 : Keeps w w1 := Keeps.next (Keeps.alloc (Below.refl _ w) _) hb1; clear hx0)
      | (
          go_at_call 11; refine (hinv' _).mono ?_; rintro e w2 ⟨rfl, hb2⟩; have hat2 := hat1.later hb2; have hk2 := Keeps.next hk1 hb2; have hc2 := (hat2.alloc (.cells #[.string RB] 9)).cell 1; have hf2 := (hat2.alloc (.cells #[.string RB] 9)).frozen 1; have hc3 := hat2.cell 1; have hf3 := hat2.frozen 1; have hsz2 := hat2.lt
          have hadd : (Op.stringOp .add KB IB).run Try.prog w2 = .ok (.string RB) w2 := (by rw [run_string_add_sum w2 KB IB Hadd.out, Hcat.out])
          have hatS0 : At (w2.setCell ⟨w.heap.size, 1, none⟩ (.slice (some ⟨w2.heap.size, 0, none⟩) 1 1)) w.heap.size 25 #[.int .i64 2, .slice (some ⟨w2.heap.size, 0, none⟩) 1 1] := by simpa using hat2.set 1 (.slice (some ⟨w2.heap.size, 0, none⟩) 1 1)
          have hatS := hatS0.alloc (.cells #[.string RB] 9)
          have hrS := one_at (At.new' (w2.setCell ⟨w.heap.size, 1, none⟩ (.slice (some ⟨w2.heap.size, 0, none⟩) 1 1)) w2.heap.size (by simp [World.setCell]) 9 #[.string RB])
          have hkS : Keeps w ((w2.setCell ⟨w.heap.size, 1, none⟩ (.slice (some ⟨w2.heap.size, 0, none⟩) 1 1)).alloc (.cells #[.string RB] 9)) := Keeps.alloc (hk2.setCell (Nat.le_refl _) _) _
          clear hatS0 hinv' hword hmodx)
      | (go_at_call 9; refine (hmodd' _).mono ?_; rintro e wm ⟨rfl, rfl⟩)
      | (refine wpList_load_row rfl 25 _ rfl w.heap.size rfl 25 _ (0, 0) _ hatS Try.underlying25 rfl (sizeG _ _) ?_)
      | (go_at_call 12; refine (hcnt' _ _ hrS).mono ?_; rintro e w5 ⟨rfl, hb5⟩; have hat5 := hatS.later hb5; have hk5 := Keeps.next hkS hb5; have hc50 := fun o : Obj => (hat5.alloc o).cell 0)
      | (go_at_call 13; refine (awake_c _).mono ?_; rintro e w7 ⟨rfl, hb7⟩; have hk7 := Keeps.next (Keeps.alloc hk5 _) hb7))
    go_ret
    exact ⟨rfl, hk7⟩
  · have hmodd' : ∀ y, Calls Try.prog 9 #[.int .i64 d, .int .i64 5] y fun e w' => e = .returned (.int .i64 1) ∧ y = w' := hmodd
    have hcnt' : ∀ (y : World) (u : Value), RdS y u [RB] → Calls Try.prog 12 #[.agg #[.int .i64 2, u], .int .i64 2] y fun e w' => e = .returned (.tuple #[.int .i64 3, .int .i64 0]) ∧ Keeps y w' := hcnt
    clear hmodd hcnt m1
    go_enter Try.func3, Try.ntmps3
    go_wp2_with (
      first
      | (go_at_call 9; refine (hmodx _).mono ?_; rintro e wm ⟨rfl, rfl⟩)
      | (go_at_call 10; refine (hword _).mono ?_; rintro e w1 ⟨rfl, hb1⟩; have hat1 := hat0.later hb1; have hk1 : Keeps w w1 := Keeps.next (Keeps.alloc (Below.refl _ w) _) hb1; clear hx0)
      | (
          go_at_call 11; refine (hinv' _).mono ?_; rintro e w2 ⟨rfl, hb2⟩; have hat2 := hat1.later hb2; have hk2 := Keeps.next hk1 hb2; have hc2 := (hat2.alloc (.cells #[.string RB] 9)).cell 1; have hf2 := (hat2.alloc (.cells #[.string RB] 9)).frozen 1; have hc3 := hat2.cell 1; have hf3 := hat2.frozen 1; have hsz2 := hat2.lt
          have hadd : (Op.stringOp .add KB IB).run Try.prog w2 = .ok (.string RB) w2 := (by rw [run_string_add_sum w2 KB IB Hadd.out, Hcat.out])
          have hatS0 : At (w2.setCell ⟨w.heap.size, 1, none⟩ (.slice (some ⟨w2.heap.size, 0, none⟩) 1 1)) w.heap.size 25 #[.int .i64 2, .slice (some ⟨w2.heap.size, 0, none⟩) 1 1] := by simpa using hat2.set 1 (.slice (some ⟨w2.heap.size, 0, none⟩) 1 1)
          have hatS := hatS0.alloc (.cells #[.string RB] 9)
          have hrS := one_at (At.new' (w2.setCell ⟨w.heap.size, 1, none⟩ (.slice (some ⟨w2.heap.size, 0, none⟩) 1 1)) w2.heap.size (by simp [World.setCell]) 9 #[.string RB])
          have hkS : Keeps w ((w2.setCell ⟨w.heap.size, 1, none⟩ (.slice (some ⟨w2.heap.size, 0, none⟩) 1 1)).alloc (.cells #[.string RB] 9)) := Keeps.alloc (hk2.setCell (Nat.le_refl _) _) _
          clear hatS0 hinv' hword hmodx)
      | (go_at_call 9; refine (hmodd' _).mono ?_; rintro e wm ⟨rfl, rfl⟩)
      | (refine wpList_load_row rfl 25 _ rfl w.heap.size rfl 25 _ (0, 0) _ hatS Try.underlying25 rfl (sizeG _ _) ?_)
      | (go_at_call 12; refine (hcnt' _ _ hrS).mono ?_; rintro e w5 ⟨rfl, hb5⟩; have hat5 := hatS.later hb5; have hk5 := Keeps.next hkS hb5; have hc50 := fun o : Obj => (hat5.alloc o).cell 0)
      | (go_at_call 13; refine (awake_c _).mono ?_; rintro e w7 ⟨rfl, hb7⟩; have hk7 := Keeps.next (Keeps.alloc hk5 _) hb7))
    go_ret
    exact ⟨rfl, hk7⟩
  · have hmodd' : ∀ y, Calls Try.prog 9 #[.int .i64 d, .int .i64 5] y fun e w' => e = .returned (.int .i64 2) ∧ y = w' := hmodd
    have hcnt' : ∀ (y : World) (u : Value), RdS y u [RB] → Calls Try.prog 12 #[.agg #[.int .i64 2, u], .int .i64 3] y fun e w' => e = .returned (.tuple #[.int .i64 13, .int .i64 0]) ∧ Keeps y w' := hcnt
    clear hmodd hcnt m1
    go_enter Try.func3, Try.ntmps3
    go_wp2_with (
      first
      | (go_at_call 9; refine (hmodx _).mono ?_; rintro e wm ⟨rfl, rfl⟩)
      | (go_at_call 10; refine (hword _).mono ?_; rintro e w1 ⟨rfl, hb1⟩; have hat1 := hat0.later hb1; have hk1 : Keeps w w1 := Keeps.next (Keeps.alloc (Below.refl _ w) _) hb1; clear hx0)
      | (
          go_at_call 11; refine (hinv' _).mono ?_; rintro e w2 ⟨rfl, hb2⟩; have hat2 := hat1.later hb2; have hk2 := Keeps.next hk1 hb2; have hc2 := (hat2.alloc (.cells #[.string RB] 9)).cell 1; have hf2 := (hat2.alloc (.cells #[.string RB] 9)).frozen 1; have hc3 := hat2.cell 1; have hf3 := hat2.frozen 1; have hsz2 := hat2.lt
          have hadd : (Op.stringOp .add KB IB).run Try.prog w2 = .ok (.string RB) w2 := (by rw [run_string_add_sum w2 KB IB Hadd.out, Hcat.out])
          have hatS0 : At (w2.setCell ⟨w.heap.size, 1, none⟩ (.slice (some ⟨w2.heap.size, 0, none⟩) 1 1)) w.heap.size 25 #[.int .i64 2, .slice (some ⟨w2.heap.size, 0, none⟩) 1 1] := by simpa using hat2.set 1 (.slice (some ⟨w2.heap.size, 0, none⟩) 1 1)
          have hatS := hatS0.alloc (.cells #[.string RB] 9)
          have hrS := one_at (At.new' (w2.setCell ⟨w.heap.size, 1, none⟩ (.slice (some ⟨w2.heap.size, 0, none⟩) 1 1)) w2.heap.size (by simp [World.setCell]) 9 #[.string RB])
          have hkS : Keeps w ((w2.setCell ⟨w.heap.size, 1, none⟩ (.slice (some ⟨w2.heap.size, 0, none⟩) 1 1)).alloc (.cells #[.string RB] 9)) := Keeps.alloc (hk2.setCell (Nat.le_refl _) _) _
          clear hatS0 hinv' hword hmodx)
      | (go_at_call 9; refine (hmodd' _).mono ?_; rintro e wm ⟨rfl, rfl⟩)
      | (refine wpList_load_row rfl 25 _ rfl w.heap.size rfl 25 _ (0, 0) _ hatS Try.underlying25 rfl (sizeG _ _) ?_)
      | (go_at_call 12; refine (hcnt' _ _ hrS).mono ?_; rintro e w5 ⟨rfl, hb5⟩; have hat5 := hatS.later hb5; have hk5 := Keeps.next hkS hb5; have hc50 := fun o : Obj => (hat5.alloc o).cell 0)
      | (go_at_call 13; refine (awake_c _).mono ?_; rintro e w7 ⟨rfl, hb7⟩; have hk7 := Keeps.next (Keeps.alloc hk5 _) hb7))
    go_ret
    exact ⟨rfl, hk7⟩
  · have hmodd' : ∀ y, Calls Try.prog 9 #[.int .i64 d, .int .i64 5] y fun e w' => e = .returned (.int .i64 3) ∧ y = w' := hmodd
    have hcnt' : ∀ (y : World) (u : Value), RdS y u [RB] → Calls Try.prog 12 #[.agg #[.int .i64 2, u], .int .i64 4] y fun e w' => e = .returned (.tuple #[.int .i64 71, .int .i64 0]) ∧ Keeps y w' := hcnt
    clear hmodd hcnt m1
    go_enter Try.func3, Try.ntmps3
    go_wp2_with (
      first
      | (go_at_call 9; refine (hmodx _).mono ?_; rintro e wm ⟨rfl, rfl⟩)
      | (go_at_call 10; refine (hword _).mono ?_; rintro e w1 ⟨rfl, hb1⟩; have hat1 := hat0.later hb1; have hk1 : Keeps w w1 := Keeps.next (Keeps.alloc (Below.refl _ w) _) hb1; clear hx0)
      | (
          go_at_call 11; refine (hinv' _).mono ?_; rintro e w2 ⟨rfl, hb2⟩; have hat2 := hat1.later hb2; have hk2 := Keeps.next hk1 hb2; have hc2 := (hat2.alloc (.cells #[.string RB] 9)).cell 1; have hf2 := (hat2.alloc (.cells #[.string RB] 9)).frozen 1; have hc3 := hat2.cell 1; have hf3 := hat2.frozen 1; have hsz2 := hat2.lt
          have hadd : (Op.stringOp .add KB IB).run Try.prog w2 = .ok (.string RB) w2 := (by rw [run_string_add_sum w2 KB IB Hadd.out, Hcat.out])
          have hatS0 : At (w2.setCell ⟨w.heap.size, 1, none⟩ (.slice (some ⟨w2.heap.size, 0, none⟩) 1 1)) w.heap.size 25 #[.int .i64 2, .slice (some ⟨w2.heap.size, 0, none⟩) 1 1] := by simpa using hat2.set 1 (.slice (some ⟨w2.heap.size, 0, none⟩) 1 1)
          have hatS := hatS0.alloc (.cells #[.string RB] 9)
          have hrS := one_at (At.new' (w2.setCell ⟨w.heap.size, 1, none⟩ (.slice (some ⟨w2.heap.size, 0, none⟩) 1 1)) w2.heap.size (by simp [World.setCell]) 9 #[.string RB])
          have hkS : Keeps w ((w2.setCell ⟨w.heap.size, 1, none⟩ (.slice (some ⟨w2.heap.size, 0, none⟩) 1 1)).alloc (.cells #[.string RB] 9)) := Keeps.alloc (hk2.setCell (Nat.le_refl _) _) _
          clear hatS0 hinv' hword hmodx)
      | (go_at_call 9; refine (hmodd' _).mono ?_; rintro e wm ⟨rfl, rfl⟩)
      | (refine wpList_load_row rfl 25 _ rfl w.heap.size rfl 25 _ (0, 0) _ hatS Try.underlying25 rfl (sizeG _ _) ?_)
      | (go_at_call 12; refine (hcnt' _ _ hrS).mono ?_; rintro e w5 ⟨rfl, hb5⟩; have hat5 := hatS.later hb5; have hk5 := Keeps.next hkS hb5; have hc50 := fun o : Obj => (hat5.alloc o).cell 0)
      | (go_at_call 13; refine (awake_c _).mono ?_; rintro e w7 ⟨rfl, hb7⟩; have hk7 := Keeps.next (Keeps.alloc hk5 _) hb7))
    go_ret
    exact ⟨rfl, hk7⟩
  · have hmodd' : ∀ y, Calls Try.prog 9 #[.int .i64 d, .int .i64 5] y fun e w' => e = .returned (.int .i64 4) ∧ y = w' := hmodd
    have hcnt' : ∀ (y : World) (u : Value), RdS y u [RB] → Calls Try.prog 12 #[.agg #[.int .i64 2, u], .int .i64 5] y fun e w' => e = .returned (.tuple #[.int .i64 461, .int .i64 0]) ∧ Keeps y w' := hcnt
    clear hmodd hcnt m1
    go_enter Try.func3, Try.ntmps3
    go_wp2_with (
      first
      | (go_at_call 9; refine (hmodx _).mono ?_; rintro e wm ⟨rfl, rfl⟩)
      | (go_at_call 10; refine (hword _).mono ?_; rintro e w1 ⟨rfl, hb1⟩; have hat1 := hat0.later hb1; have hk1 : Keeps w w1 := Keeps.next (Keeps.alloc (Below.refl _ w) _) hb1; clear hx0)
      | (
          go_at_call 11; refine (hinv' _).mono ?_; rintro e w2 ⟨rfl, hb2⟩; have hat2 := hat1.later hb2; have hk2 := Keeps.next hk1 hb2; have hc2 := (hat2.alloc (.cells #[.string RB] 9)).cell 1; have hf2 := (hat2.alloc (.cells #[.string RB] 9)).frozen 1; have hc3 := hat2.cell 1; have hf3 := hat2.frozen 1; have hsz2 := hat2.lt
          have hadd : (Op.stringOp .add KB IB).run Try.prog w2 = .ok (.string RB) w2 := (by rw [run_string_add_sum w2 KB IB Hadd.out, Hcat.out])
          have hatS0 : At (w2.setCell ⟨w.heap.size, 1, none⟩ (.slice (some ⟨w2.heap.size, 0, none⟩) 1 1)) w.heap.size 25 #[.int .i64 2, .slice (some ⟨w2.heap.size, 0, none⟩) 1 1] := by simpa using hat2.set 1 (.slice (some ⟨w2.heap.size, 0, none⟩) 1 1)
          have hatS := hatS0.alloc (.cells #[.string RB] 9)
          have hrS := one_at (At.new' (w2.setCell ⟨w.heap.size, 1, none⟩ (.slice (some ⟨w2.heap.size, 0, none⟩) 1 1)) w2.heap.size (by simp [World.setCell]) 9 #[.string RB])
          have hkS : Keeps w ((w2.setCell ⟨w.heap.size, 1, none⟩ (.slice (some ⟨w2.heap.size, 0, none⟩) 1 1)).alloc (.cells #[.string RB] 9)) := Keeps.alloc (hk2.setCell (Nat.le_refl _) _) _
          clear hatS0 hinv' hword hmodx)
      | (go_at_call 9; refine (hmodd' _).mono ?_; rintro e wm ⟨rfl, rfl⟩)
      | (refine wpList_load_row rfl 25 _ rfl w.heap.size rfl 25 _ (0, 0) _ hatS Try.underlying25 rfl (sizeG _ _) ?_)
      | (go_at_call 12; refine (hcnt' _ _ hrS).mono ?_; rintro e w5 ⟨rfl, hb5⟩; have hat5 := hatS.later hb5; have hk5 := Keeps.next hkS hb5; have hc50 := fun o : Obj => (hat5.alloc o).cell 0)
      | (go_at_call 13; refine (awake_c _).mono ?_; rintro e w7 ⟨rfl, hb7⟩; have hk7 := Keeps.next (Keeps.alloc hk5 _) hb7))
    go_ret
    exact ⟨rfl, hk7⟩


theorem law_free (x d : Int) (s : ByteArray) (w : World) (hx : (Lit.int .i64 x).wf = true) (hd : (Lit.int .i64 d).wf = true) (hs : s.size ≤ maxLen) :
    Calls Try.prog 3 #[.int .i64 x, .int .i64 d, .string s] w fun e w' => e = .returned (.bool true) ∧ Keeps w w' := by
  obtain ⟨m0, m1⟩ := modN_in x 2 (by omega)
  have hc : modN x 2 = 0 ∨ modN x 2 = 1 := by omega
  rcases hc with h | h
  · exact free_walk1 x d hx hd h s hs w
  · exact free_walk2 x d hx hd h s hs w
end Go.Proofs.Ytikedhkibdeheaa
