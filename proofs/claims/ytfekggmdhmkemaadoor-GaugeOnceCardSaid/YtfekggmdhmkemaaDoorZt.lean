/- The law GaugeValues. -/
import Derived.Test.YtfekggmdhmkemaaDoorZs
import Derived.Test.YtfekggmdhmkemaaDoorZk
import Derived.Test.YtfekggmdhmkemaaDoorGq
namespace Go.Proofs.YtfekggmdhmkemaaDoor
open Go.RowKit
set_option linter.unusedVariables false
set_option linter.unusedSimpArgs false

theorem vsum_nn : ∀ (l : List UInt8) (k : Int) (s : Int × Int), (∀ c ∈ l, okD c) → nn s → k ≤ 40 → -41 ≤ k - l.length → nn (vsum l k s)
  | [], _, s, _, h, _, _ => h
  | c :: l, k, s, hl, h, h1, h2 => by
    rw [List.length_cons] at h2
    obtain ⟨d, hd, hc⟩ := okD_num c (hl c List.mem_cons_self)
    have w := po_nn (pw_po k (by omega) (by omega))
    rw [vsum]
    refine vsum_nn l (k - 1) _ (fun e he => hl e (List.mem_cons_of_mem _ he)) ?_ (by omega) (by omega)
    rw [show (c.toNat : Int) - 48 = (d : Int) by omega]
    rcases (show d = 0 ∨ d = 1 ∨ d = 2 ∨ d = 3 by omega) with rfl | rfl | rfl | rfl
    · exact nn_sum h nn_zero (by simp [plusG, timesG]) (by simp [plusG, timesG])
    · exact nn_sum h w (by simp [plusG, timesG]) (by simp [plusG, timesG])
    · have w2 := nn_sum w w (z := (2 * (pw k).1, 2 * (pw k).2)) (by simp only; omega) (by simp only; omega)
      exact nn_sum h w2 (by simp [plusG, timesG]) (by simp [plusG, timesG])
    · have w2 := nn_sum w w (z := (2 * (pw k).1, 2 * (pw k).2)) (by simp only; omega) (by simp only; omega)
      have w3 := nn_sum w2 w (z := (3 * (pw k).1, 3 * (pw k).2)) (by simp only; omega) (by simp only; omega)
      exact nn_sum h w3 (by simp [plusG, timesG]) (by simp [plusG, timesG])
theorem val_nn (l F G : List UInt8) (h : prs l = some (F, G)) : nn (valG (digL F G)) := by
  obtain ⟨hF, hG, f1, f2, g2, hl⟩ := prs_parts l F G h
  rw [valG_parts F G f2 g2]
  exact vsum_nn G _ _ hG (vsum_nn F _ _ hF nn_zero (by omega) (by omega)) (by omega) (by omega)
theorem dig_80 (l F G : List UInt8) (h : prs l = some (F, G)) : (digL F G).length = 80 ∧ ∀ c ∈ digL F G, okD c := by
  obtain ⟨hF, hG, f1, f2, g2, hl⟩ := prs_parts l F G h
  refine ⟨by simp [digL]; omega, fun c hc => ?_⟩
  simp only [digL, List.mem_append, List.mem_replicate] at hc
  rcases hc with (hc | hc) | (hc | hc)
  · exact .inl hc.2
  · exact hF c hc
  · exact hG c hc
  · exact .inl hc.2
/-- A text, cut. -/
def brf (s : ByteArray) : ByteArray := if s.size ≤ 84 then s else s.extract 0 84
theorem brf_size (s : ByteArray) : (brf s).size ≤ 84 := by
  unfold brf
  split
  · assumption
  · rw [ByteArray.size_extract]; omega
theorem brief_c (s : ByteArray) (hs : s.size ≤ maxLen) (w : World) :
    Calls Tryd.prog 8 #[.string s] w fun e w' => e = .returned (.string (brf s)) ∧ Keeps w w' := by
  unfold maxLen at hs
  have hex : s.extract 0 s.size = s := by
    apply ByteArray.ext
    rw [ByteArray.data_extract]
    show s.data.extract 0 s.data.size = s.data
    simp
  by_cases h : s.size ≤ 84
  · have hb : brf s = s := by unfold brf; rw [if_pos h]
    rw [hb]
    have e1 : min (s.size : Int) 84 = (s.size : Int) := by omega
    have e2 : decide ((s.size : Int) < 84) = true ∨ (decide ((s.size : Int) < 84) = false ∧ s.size = 84) := by
      simp only [decide_eq_true_eq, decide_eq_false_iff_not]; omega
    have HEX := Lib.hid hex
    clear hex hb
    go_enter Tryd.func8, Tryd.ntmps8
    go_wp2_with fail
    go_ret
    exact ⟨by first | rfl | rw [HEX.out] | (simp [HEX.out]), Below.refl _ _⟩
  · have hb : brf s = s.extract 0 84 := by unfold brf; rw [if_neg h]
    rw [hb]
    have e1 : min (s.size : Int) 84 = 84 := by omega
    clear hex hb
    go_enter Tryd.func8, Tryd.ntmps8
    go_wp2_with fail
    go_ret
    exact ⟨rfl, Below.refl _ _⟩
theorem isText_c (s : ByteArray) (hs : s.size ≤ maxLen) (w : World) :
    Calls Tryd.prog 11 #[.string s] w fun e w' => e = .returned (.bool (decide (0 ≤ ptI s.data.toList))) ∧ Keeps w w' := by
  have cp := fun z => point_any s hs z
  generalize ptI s.data.toList = p at *
  go_enter Tryd.func11, Tryd.ntmps11
  go_wp2_with (go_at_call 25; refine (cp _).mono ?_; rintro e w1 ⟨rfl, rfl⟩)
  go_ret
  exact ⟨rfl, Below.refl _ _⟩
/-- What the program's functions tell of a text, by its parts. -/
theorem text_no (T : ByteArray) (hT : T.size ≤ 84) (h : prs T.data.toList = none) (w : World) : Calls Tryd.prog 21 #[.string T] w fun e w' => e = .returned (.tuple #[.agg (dB (List.replicate 80 0)), .int .i64 4]) ∧ Keeps w w' := by
  have := read_any T.data.toList (by rw [Array.length_toList]; exact Nat.le_trans hT (by decide)) w
  unfold rdV rdE at this
  rw [h] at this
  exact this
theorem text_yes (T : ByteArray) (hT : T.size ≤ 84) (F G : List UInt8) (h : prs T.data.toList = some (F, G)) (w : World) : Calls Tryd.prog 21 #[.string T] w fun e w' => e = .returned (.tuple #[.agg (dB (digL F G)), .int .i64 0]) ∧ Keeps w w' := by
  have := read_any T.data.toList (by rw [Array.length_toList]; exact Nat.le_trans hT (by decide)) w
  unfold rdV rdE at this
  rw [h] at this
  exact this
set_option maxHeartbeats 4000000 in
set_option maxRecDepth 100000 in
theorem values_none (s : ByteArray) (hs : s.size ≤ maxLen) (hp : prs (brf s).data.toList = none) (w : World) :
    Calls Tryd.prog 3 #[.string s] w fun e w' => e = .returned (.bool true) ∧ Keeps w w' := by
  have aw := fun z => awake_c z
  have cb := fun z => brief_c s hs z
  have hT := brf_size s
  generalize brf s = T at *
  have ct := fun z => isText_c T (Nat.le_trans hT (by unfold maxLen; decide)) z
  have hpt := prs_point T.data.toList
  rw [hp] at hpt
  simp only at hpt
  rw [hpt, show decide (0 ≤ (-1 : Int)) = false by decide] at ct
  have cv := fun z => Value_no T (text_no T hT hp) z
  have cq := fun z => Plain_no T 4 rfl cv z
  clear hp hpt hT
  have k0 : Keeps w w := Below.refl _ _
  go_enter Tryd.func3, Tryd.ntmps3
  go_upto_region 2 with (first
    | (go_at_call 8
       (with_reducible refine (cb _).mono ?_)
       rintro e w1 ⟨rfl, b1⟩
       have k1 := Keeps.next k0 b1
       clear cb k0 ))
  go_upto_region 3 with (first
    | (go_at_call 9
       (with_reducible refine (cv _).mono ?_)
       rintro e w2 ⟨rfl, b2⟩
       have t2 := At.new w2 24 (gv (0, 0))
       have a2 := t2.row (gv (0, 0))
       have dd := below_row (Keeps.alloc b2 (.cells (gv (0, 0)) 24)) b2.size (gv (0, 0))
       have kk2 := Keeps.next k1 dd
       clear dd
       clear cv)
    | (refine wpList_store_row rfl 24 _ _ rfl w2.heap.size (gv (0, 0)) rfl rfl 24 (gv (0, 0)) t2 (sizeV _) rfl (oneV _) ?_))
  clear t2 b2 k1
  have k2 := kk2
  clear kk2
  go_upto_region 4 with (first
    | (go_at_call 10
       (with_reducible refine (cq _).mono ?_)
       rintro e w3 ⟨rfl, b3⟩
       have a3 := a2.later b3
       have k3 := Keeps.next k2 b3
       clear cq k2 a2))
  go_upto_region 5 with (first
    | (go_at_call 11
       (with_reducible refine (ct _).mono ?_)
       rintro e w4 ⟨rfl, b4⟩
       have a4 := a3.later b4
       have k4 := Keeps.next k3 b4
       clear ct k3 a3))
  go_wp2_with (first
    | (refine load_row_w rfl 24 _ rfl _ rfl 24 #[.int .i64 0, .int .i64 0] _ _ a4 Tryd.underlying24 rfl (sizeG _ _) ?_)
    | (go_at_call 12
       (with_reducible refine (aw _).mono ?_)
       rintro e w5 ⟨rfl, b5⟩
       have k5 := Keeps.next k4 b5
       clear aw k4 ))
  go_ret
  exact ⟨rfl, k5⟩
set_option maxHeartbeats 4000000 in
set_option maxRecDepth 100000 in
theorem values_full (s : ByteArray) (hs : s.size ≤ maxLen) (F G : List UInt8) (hp : prs (brf s).data.toList = some (F, G)) (hn : numB (valG (digL F G)).1 (valG (digL F G)).2 = false) (w : World) :
    Calls Tryd.prog 3 #[.string s] w fun e w' => e = .returned (.bool true) ∧ Keeps w w' := by
  have aw := fun z => awake_c z
  have cb := fun z => brief_c s hs z
  have hT := brf_size s
  generalize brf s = T at *
  have ct := fun z => isText_c T (Nat.le_trans hT (by unfold maxLen; decide)) z
  have hpt := prs_point T.data.toList
  rw [hp] at hpt
  simp only at hpt
  rw [hpt, show decide (0 ≤ (F.length : Int)) = true by simp] at ct
  obtain ⟨h80, hok⟩ := dig_80 _ F G hp
  have hnn := val_nn _ F G hp
  have cr := fun z => refValue_c T F G hp z
  have cv := fun z => Value_ok T (digL F G) h80 hok (text_yes T hT F G hp) z
  have cn := fun z => refNumber_v (valG (digL F G)) z
  rw [hn] at cn
  rw [nofV, nofE, hn, if_neg (by simp), if_neg (by simp)] at cv
  have cq := fun z => Plain_no T 5 rfl cv z
  clear hp hpt hT h80 hok hnn hn
  generalize valG (digL F G) = vv at *
  have k0 : Keeps w w := Below.refl _ _
  go_enter Tryd.func3, Tryd.ntmps3
  go_upto_region 2 with (first
    | (go_at_call 8
       (with_reducible refine (cb _).mono ?_)
       rintro e w1 ⟨rfl, b1⟩
       have k1 := Keeps.next k0 b1
       clear cb k0 ))
  go_upto_region 3 with (first
    | (go_at_call 9
       (with_reducible refine (cv _).mono ?_)
       rintro e w2 ⟨rfl, b2⟩
       have t2 := At.new w2 24 (gv (0, 0))
       have a2 := t2.row (gv (0, 0))
       have dd := below_row (Keeps.alloc b2 (.cells (gv (0, 0)) 24)) b2.size (gv (0, 0))
       have kk2 := Keeps.next k1 dd
       clear dd
       clear cv)
    | (refine wpList_store_row rfl 24 _ _ rfl w2.heap.size (gv (0, 0)) rfl rfl 24 (gv (0, 0)) t2 (sizeV _) rfl (oneV _) ?_))
  clear t2 b2 k1
  have k2 := kk2
  clear kk2
  go_upto_region 4 with (first
    | (go_at_call 10
       (with_reducible refine (cq _).mono ?_)
       rintro e w3 ⟨rfl, b3⟩
       have a3 := a2.later b3
       have k3 := Keeps.next k2 b3
       clear cq k2 a2))
  go_upto_region 6 with (first
    | (go_at_call 11
       (with_reducible refine (ct _).mono ?_)
       rintro e w4 ⟨rfl, b4⟩
       have a4 := a3.later b4
       have k4 := Keeps.next k3 b4
       clear ct k3 a3))
  go_upto_region 7 with (first
    | (go_at_call 13
       (with_reducible refine (cr _).mono ?_)
       rintro e w5 ⟨rfl, b5⟩
       have t5 := At.new w5 24 (gv (0, 0))
       have c5 := t5.row (gv vv)
       have dd := below_row (Keeps.alloc b5 (.cells (gv (0, 0)) 24)) b5.size (gv vv)
       have a5 := a4.later dd
       have kk5 := Keeps.next k4 dd
       clear dd a4
       clear cr)
    | (refine wpList_store_row rfl 24 _ _ rfl w5.heap.size (gv vv) rfl rfl 24 (gv (0, 0)) t5 (sizeV _) rfl (oneV _) ?_))
  clear t5 b5 k4
  have k5 := kk5
  clear kk5
  go_upto_region 8 with (first
    | (refine load_row_w rfl 24 _ rfl _ rfl 24 _ _ _ c5 Tryd.underlying24 rfl (sizeV _) ?_)
    | (go_at_call 14
       (with_reducible refine (cn _).mono ?_)
       rintro e w6 ⟨rfl, b6⟩
       have a6 := a5.later b6
       have k6 := Keeps.next k5 b6
       clear cn k5 a5))
  go_wp2_with (first
    | (refine load_row_w rfl 24 _ rfl _ rfl 24 #[.int .i64 0, .int .i64 0] _ _ a6 Tryd.underlying24 rfl (sizeG _ _) ?_)
    | (go_at_call 12
       (with_reducible refine (aw _).mono ?_)
       rintro e w7 ⟨rfl, b7⟩
       have k7 := Keeps.next k6 b7
       clear aw k6 ))
  go_ret
  exact ⟨rfl, k7⟩
set_option maxHeartbeats 4000000 in
set_option maxRecDepth 100000 in
theorem values_yes (s : ByteArray) (hs : s.size ≤ maxLen) (F G : List UInt8) (hp : prs (brf s).data.toList = some (F, G)) (hn : numB (valG (digL F G)).1 (valG (digL F G)).2 = true) (w : World) :
    Calls Tryd.prog 3 #[.string s] w fun e w' => e = .returned (.bool true) ∧ Keeps w w' := by
  have aw := fun z => awake_c z
  have cb := fun z => brief_c s hs z
  have hT := brf_size s
  generalize brf s = T at *
  have ct := fun z => isText_c T (Nat.le_trans hT (by unfold maxLen; decide)) z
  have hpt := prs_point T.data.toList
  rw [hp] at hpt
  simp only at hpt
  rw [hpt, show decide (0 ≤ (F.length : Int)) = true by simp] at ct
  obtain ⟨h80, hok⟩ := dig_80 _ F G hp
  have hnn := val_nn _ F G hp
  have cr := fun z => refValue_c T F G hp z
  have cv := fun z => Value_ok T (digL F G) h80 hok (text_yes T hT F G hp) z
  have cn := fun z => refNumber_v (valG (digL F G)) z
  rw [hn] at cn
  rw [nofV, nofE, hn, if_pos rfl, if_pos rfl] at cv
  have cq := fun z => Plain_ok T (valG (digL F G)) (sm2_of hn) cv z
  have cx : ∀ z, Calls Tryd.prog 15 #[.agg #[.int .i64 (valG (digL F G)).1, .int .i64 (valG (digL F G)).2]] z fun e w' => e = .returned (.string ⟨(textG (valG (digL F G))).toArray⟩) ∧ Keeps z w' := fun z => refText_c _ hn hnn z
  clear hp hpt hT h80 hok hnn hn
  generalize (⟨(textG (valG (digL F G))).toArray⟩ : ByteArray) = TT at *
  generalize valG (digL F G) = vv at *
  have k0 : Keeps w w := Below.refl _ _
  go_enter Tryd.func3, Tryd.ntmps3
  go_upto_region 2 with (first
    | (go_at_call 8
       (with_reducible refine (cb _).mono ?_)
       rintro e w1 ⟨rfl, b1⟩
       have k1 := Keeps.next k0 b1
       clear cb k0 ))
  go_upto_region 3 with (first
    | (go_at_call 9
       (with_reducible refine (cv _).mono ?_)
       rintro e w2 ⟨rfl, b2⟩
       have t2 := At.new w2 24 (gv (0, 0))
       have a2 := t2.row (gv vv)
       have dd := below_row (Keeps.alloc b2 (.cells (gv (0, 0)) 24)) b2.size (gv vv)
       have kk2 := Keeps.next k1 dd
       clear dd
       clear cv)
    | (refine wpList_store_row rfl 24 _ _ rfl w2.heap.size (gv vv) rfl rfl 24 (gv (0, 0)) t2 (sizeV _) rfl (oneV _) ?_))
  clear t2 b2 k1
  have k2 := kk2
  clear kk2
  go_upto_region 4 with (first
    | (go_at_call 10
       (with_reducible refine (cq _).mono ?_)
       rintro e w3 ⟨rfl, b3⟩
       have a3 := a2.later b3
       have k3 := Keeps.next k2 b3
       clear cq k2 a2))
  go_upto_region 6 with (first
    | (go_at_call 11
       (with_reducible refine (ct _).mono ?_)
       rintro e w4 ⟨rfl, b4⟩
       have a4 := a3.later b4
       have k4 := Keeps.next k3 b4
       clear ct k3 a3))
  go_upto_region 7 with (first
    | (go_at_call 13
       (with_reducible refine (cr _).mono ?_)
       rintro e w5 ⟨rfl, b5⟩
       have t5 := At.new w5 24 (gv (0, 0))
       have c5 := t5.row (gv vv)
       have dd := below_row (Keeps.alloc b5 (.cells (gv (0, 0)) 24)) b5.size (gv vv)
       have a5 := a4.later dd
       have kk5 := Keeps.next k4 dd
       clear dd a4
       clear cr)
    | (refine wpList_store_row rfl 24 _ _ rfl w5.heap.size (gv vv) rfl rfl 24 (gv (0, 0)) t5 (sizeV _) rfl (oneV _) ?_))
  clear t5 b5 k4
  have k5 := kk5
  clear kk5
  go_upto_region 9 with (first
    | (refine load_row_w rfl 24 _ rfl _ rfl 24 _ _ _ c5 Tryd.underlying24 rfl (sizeV _) ?_)
    | (go_at_call 14
       (with_reducible refine (cn _).mono ?_)
       rintro e w6 ⟨rfl, b6⟩
       have a6 := a5.later b6
       have c6 := c5.later b6
       have k6 := Keeps.next k5 b6
       clear cn k5 a5 c5))
  obtain ⟨p1, p2, -, -⟩ := row_four a6
  obtain ⟨p3, p4, -, -⟩ := row_four c6
  clear a6 c6
  go_wp2_with (first
    | (go_at_call 15
       (with_reducible refine (cx _).mono ?_)
       rintro e w7 ⟨rfl, b7⟩
       have k7 := Keeps.next k6 b7
       clear cx k6 )
    | (go_at_call 12
       (with_reducible refine (aw _).mono ?_)
       rintro e w8 ⟨rfl, b8⟩
       have k8 := Keeps.next k7 b8
       clear aw k7 ))
  go_ret
  exact ⟨rfl, k8⟩
theorem law_values (s : ByteArray) (w : World) (hs : s.size ≤ maxLen) :
    Calls Tryd.prog 3 #[.string s] w fun e w' => e = .returned (.bool true) ∧ Keeps w w' := by
  cases hp : prs (brf s).data.toList with
  | none => exact values_none s hs hp w
  | some q =>
    obtain ⟨F, G⟩ := q
    cases hn : numB (valG (digL F G)).1 (valG (digL F G)).2
    · exact values_full s hs F G hp hn w
    · exact values_yes s hs F G hp hn w
end Go.Proofs.YtfekggmdhmkemaaDoor
