/- The reference's Follow. -/
import Derived.Test.YteffkcnlipdgaaaDoorVd
namespace Go.Proofs.YteffkcnlipdgaaaDoor
open Go.RowKit
set_option linter.unusedVariables false
set_option linter.unusedSimpArgs false

/-- Following a path. -/
def nxtT (e : Ed) (c : UInt8) : Ed := if (c == 82) = true then rightT e else leftT e
def folF : Ed → List UInt8 → Option Ed
  | e, [] => some e
  | e, c :: l => if (nxtT e c).2.2 ≤ 1000000000 then folF (nxtT e c) l else none
theorem TriT.left {e : Ed} (h : TriT e) (hb : (leftT e).2.2 ≤ 1000000000) : TriT (leftT e) := by
  obtain ⟨x, y, z⟩ := e
  have h1 := Tri.left_in h
  simp only at h1
  obtain ⟨⟨o1, o2, o3, o4⟩, he⟩ := h
  simp only at o1 o2 o3 o4 he
  unfold leftT at hb ⊢
  simp only at hb
  exact ⟨⟨by simp only; omega, by simp only; omega, by simp only; omega, by simp only; omega⟩, by simp only; grind⟩
theorem TriT.right {e : Ed} (h : TriT e) (hb : (rightT e).2.2 ≤ 1000000000) : TriT (rightT e) := by
  obtain ⟨x, y, z⟩ := e
  have h1 := Tri.right_in h
  simp only at h1
  obtain ⟨⟨o1, o2, o3, o4⟩, he⟩ := h
  simp only at o1 o2 o3 o4 he
  unfold rightT at hb ⊢
  simp only at hb
  exact ⟨⟨by simp only; omega, by simp only; omega, by simp only; omega, by simp only; omega⟩, by simp only; grind⟩
def FolS (r : Option Ed) (e : Ending) : Prop := match r with
  | none => e = .returned (.tuple #[.agg #[.int .i64 0, .int .i64 0, .int .i64 0], .bool false])
  | some t => e = .returned (.tuple #[.agg #[.int .i64 t.1, .int .i64 t.2.1, .int .i64 t.2.2], .bool true])
theorem path_at (s : ByteArray) (k : Nat) (hk : k < s.size) (h : (s.data.toList.all fun c => [76, 82].contains c) = true) : s[k] = 76 ∨ s[k] = 82 := by
  have := List.all_eq_true.1 h s[k] (by show s.data[k] ∈ _; simp)
  simpa using this
set_option maxHeartbeats 8000000 in
set_option maxRecDepth 20000 in
theorem refFollow_c (s : ByteArray) (hs : s.size ≤ 100) (hw : (s.data.toList.all fun c => [76, 82].contains c) = true) (w : World) :
    Calls Tryd.prog 24 #[.string s] w fun e w' => FolS (folF (1, 2, 5) s.data.toList) e ∧ Keeps w w' := by
  have hA0 := (At.new w 22 #[.int .i64 0, .int .i64 0, .int .i64 0]).alloc (.cells #[.int .i64 1, .int .i64 2, .int .i64 5] 22)
  have hB0 : At ((w.alloc (.cells #[.int .i64 0, .int .i64 0, .int .i64 0] 22)).alloc (.cells #[.int .i64 1, .int .i64 2, .int .i64 5] 22)) (w.heap.size + 1) 22 (ev (1, 2, 5)) := At.new2 w _ _ _
  have hk1 : Keeps w ((w.alloc (.cells #[.int .i64 0, .int .i64 0, .int .i64 0] 22)).alloc (.cells #[.int .i64 1, .int .i64 2, .int .i64 5] 22)) := Keeps.alloc (Keeps.alloc (Below.refl _ _) _) _
  go_enter Tryd.func24, Tryd.ntmps24
  go_wp2_with fail
  change Code.wp _ _ _ _ ((w.alloc (.cells #[.int .i64 0, .int .i64 0, .int .i64 0] 22)).alloc (.cells #[.int .i64 1, .int .i64 2, .int .i64 5] 22))
  generalize (w.alloc (.cells #[.int .i64 0, .int .i64 0, .int .i64 0] 22)).alloc (.cells #[.int .i64 1, .int .i64 2, .int .i64 5] 22) = X at *
  go_loopw [5] (fun s5 wr => ∃ (k : Nat) (t : Ed), k ≤ s.size ∧ s5 = .int .i64 k ∧ TriT t ∧ folF t (s.data.toList.drop k) = folF (1, 2, 5) s.data.toList ∧ At wr (w.heap.size + 1) 22 (ev t) ∧ Keeps w wr ∧ At wr w.heap.size 22 #[.int .i64 0, .int .i64 0, .int .i64 0]) (fun s5 _ => s.size - (intOf s5).toNat)
  case atStart => exact ⟨0, (1, 2, 5), Nat.zero_le _, rfl, (trB_iff _ _ _).1 (by decide), rfl, hB0, hk1, hA0⟩
  case round =>
    obtain ⟨k, t, hk, rfl, ht, hf, hat, hkr, hA⟩ := hrel
    clear hB0 hk1 hA0
    by_cases hlt : k < s.size
    · have hkI : (k : Int) < s.size := by omega
      have hdr : s.data.toList.drop k = s[k] :: s.data.toList.drop (k + 1) := by
        rw [List.drop_eq_getElem_cons (by simpa using hlt)]; rfl
      have hq : s[k]? = some s[k] := by simp [hlt]
      have hsz := hkr.size
      have hlt2 := hat.lt
      have hab := path_at s k hlt hw
      rw [hdr, folF] at hf
      have p1 := (row_ev hat).1
      have p2 := (row_ev hat).2.1
      have p3 := (row_ev hat).2.2
      obtain ⟨a, b, c⟩ := t
      rcases hab with hc | hc
      · rw [hc] at hf
        have heqc : (((s[k].toNat : Nat) : Int) == 82) = false := by rw [hc]; rfl
        have hnx : nxtT (a, b, c) 76 = leftT (a, b, c) := by rfl
        rw [hnx] at hf
        have cE := fun W => refEx0_c a b c ht W
        have ht2 := TriT.left ht
        generalize leftT (a, b, c) = o at *
        obtain ⟨o1, o2, o3⟩ := o
        simp only at cE hf ht2
        have Hc := Lib.hid hc
        by_cases hok : o3 ≤ 1000000000
        · rw [decide_eq_true hok] at cE
          rw [if_pos hok] at hf
          have Hf := Lib.hid hf
          have Ht2 := Lib.hid (ht2 hok)
          clear hf hok ht2 hnx hc hdr
          go_wp2_with (first
            | (go_at_call 42; refine (cE _).mono ?_; rintro e w1 ⟨rfl, h1⟩; have k1 : Keeps w (w1.alloc (.cells #[.int .i64 o1, .int .i64 o2, .int .i64 o3] 22)) := Keeps.alloc (Keeps.next hkr h1) _; have hB1 := (hat.later h1).alloc (.cells #[.int .i64 o1, .int .i64 o2, .int .i64 o3] 22); have hA1 := (hA.later h1).alloc (.cells #[.int .i64 o1, .int .i64 o2, .int .i64 o3] 22))
            | (refine wpList_store_row rfl 22 _ _ rfl (w.heap.size + 1) #[.int .i64 o1, .int .i64 o2, .int .i64 o3] rfl rfl 22 (ev (a, b, c)) hB1 (size3 _ _ _) rfl (oneT _ _ _) ?_))
          have h9 := hB1.row #[.int .i64 o1, .int .i64 o2, .int .i64 o3]
          have h8 := hA1.rowfar (by omega : w.heap.size ≠ w.heap.size + 1) #[.int .i64 o1, .int .i64 o2, .int .i64 o3]
          go_roundw
          case rel => exact ⟨k + 1, (o1, o2, o3), by omega, by go_num, Ht2.out, Hf.out, h9, below_row k1 (by omega) _, h8⟩
          case measure => simp [intOf]; omega
        · rw [decide_eq_false hok] at cE
          rw [if_neg hok] at hf
          have Hf := Lib.hid hf
          clear hf hok ht2 hnx hc hdr
          go_wp2_with (first
            | (go_at_call 42; refine (cE _).mono ?_; rintro e w1 ⟨rfl, h1⟩; have k1 : Keeps w (w1.alloc (.cells #[.int .i64 o1, .int .i64 o2, .int .i64 o3] 22)) := Keeps.alloc (Keeps.next hkr h1) _; have hA1 := (hA.later h1).alloc (.cells #[.int .i64 o1, .int .i64 o2, .int .i64 o3] 22))
            | (refine wpList_store_row rfl 22 _ _ rfl w.heap.size #[.int .i64 0, .int .i64 0, .int .i64 0] rfl rfl 22 #[.int .i64 0, .int .i64 0, .int .i64 0] hA1 (size3 _ _ _) rfl (oneT _ _ _) ?_))
          have h3 := hA1.row #[.int .i64 0, .int .i64 0, .int .i64 0]
          exact bodyPost_ret (v := .tuple #[.agg #[.int .i64 0, .int .i64 0, .int .i64 0], .bool false]) (results_row_tmp Tryd.results24 _ _ w.heap.size _ _ _ rfl h3 Tryd.underlying22 rfl (size3 _ _ _)) rfl ⟨by rw [← Hf.out]; rfl, below_row k1 (by omega) _⟩
      · rw [hc] at hf
        have heqc : (((s[k].toNat : Nat) : Int) == 82) = true := by rw [hc]; rfl
        have hnx : nxtT (a, b, c) 82 = rightT (a, b, c) := by rfl
        rw [hnx] at hf
        have cE := fun W => refEx1_c a b c ht W
        have ht2 := TriT.right ht
        generalize rightT (a, b, c) = o at *
        obtain ⟨o1, o2, o3⟩ := o
        simp only at cE hf ht2
        have Hc := Lib.hid hc
        by_cases hok : o3 ≤ 1000000000
        · rw [decide_eq_true hok] at cE
          rw [if_pos hok] at hf
          have Hf := Lib.hid hf
          have Ht2 := Lib.hid (ht2 hok)
          clear hf hok ht2 hnx hc hdr
          go_wp2_with (first
            | (go_at_call 42; refine (cE _).mono ?_; rintro e w1 ⟨rfl, h1⟩; have k1 : Keeps w (w1.alloc (.cells #[.int .i64 o1, .int .i64 o2, .int .i64 o3] 22)) := Keeps.alloc (Keeps.next hkr h1) _; have hB1 := (hat.later h1).alloc (.cells #[.int .i64 o1, .int .i64 o2, .int .i64 o3] 22); have hA1 := (hA.later h1).alloc (.cells #[.int .i64 o1, .int .i64 o2, .int .i64 o3] 22))
            | (refine wpList_store_row rfl 22 _ _ rfl (w.heap.size + 1) #[.int .i64 o1, .int .i64 o2, .int .i64 o3] rfl rfl 22 (ev (a, b, c)) hB1 (size3 _ _ _) rfl (oneT _ _ _) ?_))
          have h9 := hB1.row #[.int .i64 o1, .int .i64 o2, .int .i64 o3]
          have h8 := hA1.rowfar (by omega : w.heap.size ≠ w.heap.size + 1) #[.int .i64 o1, .int .i64 o2, .int .i64 o3]
          go_roundw
          case rel => exact ⟨k + 1, (o1, o2, o3), by omega, by go_num, Ht2.out, Hf.out, h9, below_row k1 (by omega) _, h8⟩
          case measure => simp [intOf]; omega
        · rw [decide_eq_false hok] at cE
          rw [if_neg hok] at hf
          have Hf := Lib.hid hf
          clear hf hok ht2 hnx hc hdr
          go_wp2_with (first
            | (go_at_call 42; refine (cE _).mono ?_; rintro e w1 ⟨rfl, h1⟩; have k1 : Keeps w (w1.alloc (.cells #[.int .i64 o1, .int .i64 o2, .int .i64 o3] 22)) := Keeps.alloc (Keeps.next hkr h1) _; have hA1 := (hA.later h1).alloc (.cells #[.int .i64 o1, .int .i64 o2, .int .i64 o3] 22))
            | (refine wpList_store_row rfl 22 _ _ rfl w.heap.size #[.int .i64 0, .int .i64 0, .int .i64 0] rfl rfl 22 #[.int .i64 0, .int .i64 0, .int .i64 0] hA1 (size3 _ _ _) rfl (oneT _ _ _) ?_))
          have h3 := hA1.row #[.int .i64 0, .int .i64 0, .int .i64 0]
          exact bodyPost_ret (v := .tuple #[.agg #[.int .i64 0, .int .i64 0, .int .i64 0], .bool false]) (results_row_tmp Tryd.results24 _ _ w.heap.size _ _ _ rfl h3 Tryd.underlying22 rfl (size3 _ _ _)) rfl ⟨by rw [← Hf.out]; rfl, below_row k1 (by omega) _⟩
    · obtain rfl : k = s.size := by omega
      have hdr : s.data.toList.drop s.size = [] := List.drop_eq_nil_of_le (by rw [Array.length_toList]; exact Nat.le_refl _)
      rw [hdr, folF] at hf
      have Hf := Lib.hid hf
      obtain ⟨a, b, c⟩ := t
      have p1 := (row_six hat).1
      have p2 := (row_six hat).2.1
      have p3 := (row_six hat).2.2.1
      clear hf hdr ht
      go_wp2_with (refine wpList_store_row rfl 22 _ _ rfl w.heap.size #[.int .i64 a, .int .i64 b, .int .i64 c] rfl rfl 22 #[.int .i64 0, .int .i64 0, .int .i64 0] hA (size3 _ _ _) rfl (oneT _ _ _) ?_)
      have h3 := hA.row #[.int .i64 a, .int .i64 b, .int .i64 c]
      exact bodyPost_ret (v := .tuple #[.agg #[.int .i64 a, .int .i64 b, .int .i64 c], .bool true]) (results_row_tmp Tryd.results24 _ _ w.heap.size _ _ _ rfl h3 Tryd.underlying22 rfl (size3 _ _ _)) rfl ⟨by rw [← Hf.out]; rfl, below_row hkr (by omega) _⟩
end Go.Proofs.YteffkcnlipdgaaaDoor
