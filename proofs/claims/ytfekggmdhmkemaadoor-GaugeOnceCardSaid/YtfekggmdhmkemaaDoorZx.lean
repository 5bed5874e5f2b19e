/- The walk of the law's text. -/
import Derived.Test.YtfekggmdhmkemaaDoorZt
import Derived.Laws.AppendOwn
namespace Go.Proofs.YtfekggmdhmkemaaDoor
open Go.RowKit
set_option linter.unusedVariables false
set_option linter.unusedSimpArgs false

/-- A digit made from any byte; some first ones of a text, with a point before the digit number a. -/
def dgC (m : Nat) (c : UInt8) : UInt8 := UInt8.ofNat (48 + c.toNat % m)
def txJ (l : List UInt8) (a m : Nat) : Nat → List UInt8
  | 0 => []
  | n + 1 => txJ l a m n ++ (if n = a then [46] else []) ++ [dgC m (l[n]?.getD 0)]
def txN (l : List UInt8) : Nat := min l.length 24
def txW (l : List UInt8) (a m : Nat) : List UInt8 := if txN l = 0 then [48] else txJ l a m (txN l)
theorem dgC_num (m : Nat) (hm : m = 2 ∨ m = 4) (c : UInt8) : ((dgC m c).toNat : Int) = 48 + (c.toNat : Int) % m := by
  unfold dgC
  have h : c.toNat % m < 4 := by
    rcases hm with rfl | rfl <;> omega
  rw [UInt8.toNat_ofNat_of_lt' (by show 48 + c.toNat % m < 256; omega)]
  omega
theorem txJ_len (l : List UInt8) (a m : Nat) : ∀ n, (txJ l a m n).length ≤ 2 * n
  | 0 => by simp [txJ]
  | n + 1 => by
    have := txJ_len l a m n
    rw [txJ, List.length_append, List.length_append]
    split <;> simp <;> omega
theorem txJ_pos (l : List UInt8) (a m n : Nat) (h : 0 < n) : 0 < (txJ l a m n).length := by
  obtain ⟨k, rfl⟩ : ∃ k, n = k + 1 := ⟨n - 1, by omega⟩
  rw [txJ, List.length_append]
  simp
set_option maxHeartbeats 8000000 in
set_option maxRecDepth 100000 in
theorem lawText_c (s : ByteArray) (hs : s.size ≤ maxLen) (at0 : Int) (m : Nat) (hm : m = 2 ∨ m = 4) (w : World) :
    Calls Tryd.prog 18 #[.string s, .int .i64 at0, .int .i64 m] w fun e w' => e = .returned (.string ⟨(txW s.data.toList (1 + modN at0 12).toNat m).toArray⟩) ∧ Keeps w w' := by
  unfold maxLen at hs
  obtain ⟨i0, hi, hz0, hz1, hz2⟩ := info_parts infoB
  have hlen : s.data.toList.length = s.size := Array.length_toList
  have cm := fun z => mod_c at0 12 (by decide) (by decide) z
  have hmi := modN_in at0 12 (by decide)
  generalize modN at0 12 = a0 at *
  obtain ⟨a, ha⟩ : ∃ a : Nat, 1 + a0 = a := ⟨(1 + a0).toNat, by omega⟩
  rw [ha, Int.toNat_natCast]
  have q1 : IntKind.i64.wrap (1 + a0) = (a : Int) := by rw [IntWalk.i64_in _ (by omega)]; exact ha
  have ha1 : 1 ≤ a := by omega
  have ha2 : a ≤ 12 := by omega
  have um : IntKind.u8.wrap (m : Int) = (m : Int) := by rcases hm with rfl | rfl <;> rfl
  have hm0 : (m : Int) ≠ 0 := by omega
  have HLen := Lib.hid hlen
  clear ha hmi hlen
  go_enter Tryd.func18, Tryd.ntmps18
  go_wp2_with (go_at_call 20; refine (cm _).mono ?_; rintro e w0 ⟨rfl, rfl⟩)
  clear cm q1
  go_loopw [7, 8] (fun u i wr => ∃ j : Nat, j ≤ s.size ∧ j ≤ 24 ∧ i = .int .i64 j ∧ wr.ownsRow w.heap.size 5 1 u (txJ s.data.toList a m j).length (bytes (txJ s.data.toList a m j)) ∧ Keeps w wr) (fun _ i _ => 25 - (intOf i).toNat)
  case atStart => exact ⟨0, Nat.zero_le _, Nat.zero_le _, rfl, World.ownsRow_nil _ _ _ _, Below.refl _ _⟩
  case round =>
    obtain ⟨j, hj, hj24, rfl, hown, hb⟩ := hrel
    generalize wr = w3 at *
    by_cases hlt : j < s.size ∧ j < 24
    · obtain ⟨hlt1, hlt2⟩ := hlt
      have d1 : decide ((j : Int) < (s.size : Int)) = true := decide_eq_true (by omega)
      have d2 : decide ((j : Int) < 24) = true := decide_eq_true (by omega)
      have hat := at_u8 s j hlt1
      have hsu : txJ s.data.toList a m (j + 1) = txJ s.data.toList a m j ++ (if j = a then [46] else []) ++ [dgC m s[j]] := by rw [txJ, hat]
      have hle := txJ_len s.data.toList a m j
      have q2 : IntKind.i64.wrap ((j : Int) + 1) = (j : Int) + 1 := IntWalk.i64_in _ (by omega)
      have hdn := dgC_num m hm s[j]
      have u2 : IntKind.u8.wrap (48 + (s[j].toNat : Int) % m) = ((dgC m s[j]).toNat : Int) := by
        rw [hdn]
        have : (s[j].toNat : Int) % m < 4 := by rcases hm with rfl | rfl <;> omega
        have : 0 ≤ (s[j].toNat : Int) % m := by rcases hm with rfl | rfl <;> omega
        simp [IntKind.wrap, IntKind.signed, IntKind.bits]; omega
      have u3 : (s[j].toNat : Int).tmod m = (s[j].toNat : Int) % m := Int.tmod_eq_emod_of_nonneg (by omega)
      generalize txJ s.data.toList a m j = L at *
      have HSU := Lib.hid hsu
      clear hsu hat hdn
      have hbs := hb.size
      have hbl : ∀ (x : List UInt8) (c : UInt8), bytes (x ++ [c]) = bytes x ++ [.int .u8 (c.toNat : Int)] := fun x c => by rw [bytes_append]; rfl
      have B1 : L.length + 1 ≤ maxLen := by unfold maxLen; omega
      have B2 : (L ++ [46]).length + 1 ≤ maxLen := by unfold maxLen; simp; omega
      have B3 : (L ++ [46]).length ≤ 60 := by simp; omega
      have Hbl := Lib.hid hbl
      clear hbl
      by_cases hja : j = a
      · have e1 : ((j : Int) == (a : Int)) = true := by rw [beq_iff_eq]; omega
        have HA := Lib.hid hja
        clear hja
        go_upto_region 8 with (at_builtin; refine wpList_append_own _ rfl _ _ 56 rfl w.heap.size 5 i0 _ 1 1 Tryd.underlying56 hi hz0 hz1 hz2 rfl (by decide) _ (L).length (bytes (L)) rfl (hown.alloc _) _ 1 1 [.int .u8 (46 : Int)] rfl rfl (new_cells _ _ _ _ (by simp)) (by simp [Value.oneCell']) B1 (by omega) (by simp; omega) ?_; intro v4 w4 how4 hgw4 _)
        have k4 := (Keeps.alloc hb (.cells #[.int .u8 46] 5)).grown hgw4 (by simp; omega) (fun r hr => own_base hown r hr)
        have o4 : w4.ownsRow w.heap.size 5 1 v4 (L ++ [46]).length (bytes (L ++ [46])) := by rw [Hbl.out]; simpa using how4
        have s4 := k4.size
        clear how4 hgw4 hown hb B1
        go_wp2_with (at_builtin; refine wpList_append_own _ rfl _ _ 56 rfl w.heap.size 5 i0 _ 1 1 Tryd.underlying56 hi hz0 hz1 hz2 rfl (by decide) _ (L ++ [46]).length (bytes (L ++ [46])) rfl (o4.alloc _) _ 1 1 [.int .u8 ((dgC m s[j]).toNat : Int)] rfl rfl (new_cells _ _ _ _ (by simp)) (by simp [Value.oneCell']) B2 (by omega) (by simp; omega) ?_; intro v5 w5 how5 hgw5 _)
        go_roundw
        case rel =>
          refine ⟨j + 1, by omega, by omega, by go_num, ?_, (Keeps.alloc k4 _).grown hgw5 (by simp; omega) (fun r hr => own_base o4 r hr)⟩
          rw [HSU.out, if_pos HA.out, Hbl.out]
          simpa using how5
        case measure => simp [intOf]; omega
      · have e1 : ((j : Int) == (a : Int)) = false := by rw [beq_eq_false_iff_ne]; omega
        have HA := Lib.hid hja
        clear hja
        go_wp2_with (at_builtin; refine wpList_append_own _ rfl _ _ 56 rfl w.heap.size 5 i0 _ 1 1 Tryd.underlying56 hi hz0 hz1 hz2 rfl (by decide) _ (L).length (bytes (L)) rfl (hown.alloc _) _ 1 1 [.int .u8 ((dgC m s[j]).toNat : Int)] rfl rfl (new_cells _ _ _ _ (by simp)) (by simp [Value.oneCell']) B1 (by omega) (by simp; omega) ?_; intro v5 w5 how5 hgw5 _)
        go_roundw
        case rel =>
          refine ⟨j + 1, by omega, by omega, by go_num, ?_, (Keeps.alloc hb _).grown hgw5 (by simp; omega) (fun r hr => own_base hown r hr)⟩
          rw [HSU.out, if_neg HA.out, List.append_nil, Hbl.out]
          simpa using how5
        case measure => simp [intOf]; omega
    · have hN : txN s.data.toList = j := by unfold txN; rw [HLen.out]; omega
      have hd : (decide (j < s.size) = false ∧ decide ((j : Int) < (s.size : Int)) = false) ∨ ((decide (j < s.size) = true ∧ decide ((j : Int) < (s.size : Int)) = true) ∧ decide ((j : Int) < 24) = false) := by
        simp only [decide_eq_true_eq, decide_eq_false_iff_not]; omega
      have hfin : txW s.data.toList a m = if j = 0 then [48] else txJ s.data.toList a m j := by unfold txW; rw [hN]
      have HF := Lib.hid hfin
      by_cases h0 : j = 0
      · subst h0
        rw [if_pos rfl] at hfin
        have HF := Lib.hid hfin
        have hown0 : w3.ownsRow w.heap.size 5 1 _ 0 [] := hown
        clear hfin hN hlt
        have hd3 : ∀ (v : Value), w3.ownsRow w.heap.size 5 1 v 0 [] → v = .slice none 0 0 ∨ ∃ g c, v = .slice (some ⟨g, 0, none⟩) 0 c := fun v hv => by
          rcases hv.2 with ⟨rfl, _⟩ | ⟨g, cap, cur, rfl, _⟩
          · exact .inl rfl
          · exact .inr ⟨g, cap, rfl⟩
        rcases hd3 _ hown0 with rfl | ⟨g, c, rfl⟩
        all_goals
          clear hown hown0 hd3
          rcases hd with ⟨e1, e3⟩ | ⟨⟨e1, e3⟩, e2⟩
          · go_wp2_with fail
            go_ret
            exact ⟨congrArg (fun l : List UInt8 => Ending.returned (Value.string ⟨l.toArray⟩)) HF.out.symm, hb⟩
          · simp at e2
      · rw [if_neg h0] at hfin
        have hpos := txJ_pos s.data.toList a m j (by omega)
        have hle := txJ_len s.data.toList a m j
        generalize txJ s.data.toList a m j = L at *
        have HF := Lib.hid hfin
        clear hfin hN hlt
        have hcv := str_own hown
        obtain ⟨g, cap, rfl, hg0, hg1, hc, hcm, hcell⟩ := own_form hown hpos
        have e0 : ((L.length : Int) == 0) = false := by rw [beq_eq_false_iff_ne]; omega
        clear hcell hown
        rcases hd with ⟨e1, e3⟩ | ⟨⟨e1, e3⟩, e2⟩
        all_goals
          go_wp2_with fail
          go_ret
          exact ⟨congrArg (fun l : List UInt8 => Ending.returned (Value.string ⟨l.toArray⟩)) HF.out.symm, hb⟩
end Go.Proofs.YtfekggmdhmkemaaDoor
