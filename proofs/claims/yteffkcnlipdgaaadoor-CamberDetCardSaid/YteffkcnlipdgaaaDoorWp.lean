/- The law of Det. -/
import Derived.Test.YteffkcnlipdgaaaDoorWo
import Derived.Test.YteffkcnlipdgaaaDoorAo
import Derived.BigQuiet
namespace Go.Proofs.YteffkcnlipdgaaaDoor
open Go.RowKit
set_option linter.unusedVariables false
set_option linter.unusedSimpArgs false

theorem phr_of (l : List UInt8) (h1 : l.length ≤ 40) (h2 : (l.all fun c => [97, 98].contains c) = true) : phraseB ⟨l.toArray⟩ = true := by
  unfold phraseB
  rw [Bool.and_eq_true]
  exact ⟨decide_eq_true (by show l.toArray.size ≤ 40; rw [List.size_toArray]; exact h1), h2⟩
theorem app_mk (l r : List UInt8) : (⟨l.toArray⟩ ++ ⟨r.toArray⟩ : ByteArray) = ⟨(l ++ r).toArray⟩ := by
  apply ByteArray.ext
  rw [ByteArray.data_append]
  simp
/-- What the law's head knows. -/
def okDet (a b c : Mx) (g : Int) : Prop :=
  leM a (1099511627776, 1099511627776, 1099511627776, 1099511627776) ∧ leM b (1099511627776, 1099511627776, 1099511627776, 1099511627776) ∧ bdM c ∧ 1 ≤ a.1 ∧ 1 ≤ a.2.2.2 ∧ detM a = 1 ∧ ((g = 0 ∧ c = mul a b) ∨ g = 5)
theorem det_head (L R : List UInt8) (h1 : L.length ≤ 15) (h2 : R.length ≤ 15) (g1 : (L.all fun c => [97, 98].contains c) = true) (g2 : (R.all fun c => [97, 98].contains c) = true) :
    ∃ a b c g, okDet a b c g ∧ (∀ W, Calls Tryd.prog 23 #[.string ⟨L.toArray⟩] W fun e w' => e = .returned (.tuple #[.agg (mv a), .int .i64 0]) ∧ Keeps W w') ∧
      (∀ W, Calls Tryd.prog 23 #[.string ⟨R.toArray⟩] W fun e w' => e = .returned (.tuple #[.agg (mv b), .int .i64 0]) ∧ Keeps W w') ∧
      (∀ W, Calls Tryd.prog 23 #[.string (⟨L.toArray⟩ ++ ⟨R.toArray⟩)] W fun e w' => e = .returned (.tuple #[.agg (mv c), .int .i64 g]) ∧ Keeps W w') := by
  obtain ⟨a, ha, la, a1, a2, da⟩ := matF_det L h1
  obtain ⟨b, hb, lb, b1, b2, db⟩ := matF_det R h2
  have cL := fun W => Matrix_c ⟨L.toArray⟩ (phr_of L (by omega) g1) W
  have cR := fun W => Matrix_c ⟨R.toArray⟩ (phr_of R (by omega) g2) W
  have cC := fun W => Matrix_c ⟨(L ++ R).toArray⟩ (phr_of (L ++ R) (by simp; omega) (by rw [List.all_append, g1, g2]; rfl)) W
  rw [show matF (1, 0, 0, 1) (ByteArray.mk L.toArray).data.toList = _ from ha] at cL
  rw [show matF (1, 0, 0, 1) (ByteArray.mk R.toArray).data.toList = _ from hb] at cR
  rw [app_mk]
  cases hc : matF (1, 0, 0, 1) (L ++ R) with
  | none =>
    rw [show matF (1, 0, 0, 1) (ByteArray.mk (L ++ R).toArray).data.toList = _ from hc] at cC
    exact ⟨a, b, (0, 0, 0, 0), 5, ⟨la, lb, by simp [bdM], a1, a2, da, Or.inr rfl⟩, cL, cR, cC⟩
  | some c =>
    rw [show matF (1, 0, 0, 1) (ByteArray.mk (L ++ R).toArray).data.toList = _ from hc] at cC
    exact ⟨a, b, c, 0, ⟨la, lb, matF_bd (L ++ R) _ c (by simp [bdM]) hc, a1, a2, da, Or.inl ⟨rfl, matF_two L R a b c ha hb hc⟩⟩, cL, cR, cC⟩
/-- What a round over a prime knows of the determinant. -/
theorem det_facts (a b c d p : Int) (ha : 0 ≤ a) (hb : 0 ≤ b) (hc : 0 ≤ c) (hd : 0 ≤ d) (hp : 2 ≤ p) (hq : p ≤ 2147483647) (h : a * d - b * c = 1) :
    ∃ A B C D M N X E F : Int, (a.tmod p = A ∧ b.tmod p = B ∧ c.tmod p = C ∧ d.tmod p = D ∧ A * D = M ∧ B * C = N ∧ M - N = X ∧ X.tmod p = E ∧ 1 - p = F) ∧
      (IntKind.i64.wrap A = A ∧ IntKind.i64.wrap B = B ∧ IntKind.i64.wrap C = C ∧ IntKind.i64.wrap D = D ∧ IntKind.i64.wrap M = M ∧ IntKind.i64.wrap N = N ∧ IntKind.i64.wrap X = X ∧ IntKind.i64.wrap E = E ∧ IntKind.i64.wrap F = F) ∧
      ((p == 0) = false ∧ p ≠ 0) ∧ ((E != 1) = false ∨ ((E != 1) = true ∧ (E != F) = false)) := by
  have r := det_rem a b c d p ha hb hc hd hp h
  have ra := rem_in a p ha hp hq
  have rb := rem_in b p hb hp hq
  have rc := rem_in c p hc hp hq
  have rd := rem_in d p hd hp hq
  have m1 := prod_in _ _ ra rd
  have m2 := prod_in _ _ rb rc
  refine ⟨_, _, _, _, _, _, _, _, _, ⟨rfl, rfl, rfl, rfl, rfl, rfl, rfl, rfl, rfl⟩, ⟨IntWalk.i64_in _ (by omega), IntWalk.i64_in _ (by omega), IntWalk.i64_in _ (by omega), IntWalk.i64_in _ (by omega), IntWalk.i64_in _ (by omega), IntWalk.i64_in _ (by omega), IntWalk.i64_in _ (by omega), IntWalk.i64_in _ (by omega), IntWalk.i64_in _ (by omega)⟩, ⟨by simp; omega, by omega⟩, ?_⟩
  by_cases h1 : (a.tmod p * d.tmod p - b.tmod p * c.tmod p).tmod p = 1
  · left; rw [h1]; rfl
  · right
    rcases r with r | r
    · exact absurd r h1
    · exact ⟨by simpa using h1, by simpa using r⟩
theorem mul_facts (r s t u p c : Int) (hr : 0 ≤ r) (hs : 0 ≤ s) (ht : 0 ≤ t) (hu : 0 ≤ u) (hp : 2 ≤ p) (hq : p ≤ 2147483647) (hc : 0 ≤ c) (h : c = r * s + t * u) :
    ∃ R S T U M N O P X Q : Int, (r.tmod p = R ∧ s.tmod p = S ∧ t.tmod p = T ∧ u.tmod p = U ∧ R * S = M ∧ T * U = N ∧ M.tmod p = O ∧ N.tmod p = P ∧ O + P = X ∧ X.tmod p = Q ∧ c.tmod p = Q) ∧
      (IntKind.i64.wrap R = R ∧ IntKind.i64.wrap S = S ∧ IntKind.i64.wrap T = T ∧ IntKind.i64.wrap U = U ∧ IntKind.i64.wrap M = M ∧ IntKind.i64.wrap N = N ∧ IntKind.i64.wrap O = O ∧ IntKind.i64.wrap P = P ∧ IntKind.i64.wrap X = X ∧ IntKind.i64.wrap Q = Q) ∧ ((p == 0) = false ∧ p ≠ 0) := by
  have e := mul_rem r s t u p c hr hs ht hu hp hc h
  have r1 := rem_in r p hr hp hq
  have r2 := rem_in s p hs hp hq
  have r3 := rem_in t p ht hp hq
  have r4 := rem_in u p hu hp hq
  have m1 := prod_in _ _ r1 r2
  have m2 := prod_in _ _ r3 r4
  have o1 := rem_in _ p m1.1 hp hq
  have o2 := rem_in _ p m2.1 hp hq
  have q1 := rem_in _ p (show 0 ≤ (r.tmod p * s.tmod p).tmod p + (t.tmod p * u.tmod p).tmod p by omega) hp hq
  exact ⟨_, _, _, _, _, _, _, _, _, _, ⟨rfl, rfl, rfl, rfl, rfl, rfl, rfl, rfl, rfl, rfl, e.symm⟩, ⟨IntWalk.i64_in _ (by omega), IntWalk.i64_in _ (by omega), IntWalk.i64_in _ (by omega), IntWalk.i64_in _ (by omega), IntWalk.i64_in _ (by omega), IntWalk.i64_in _ (by omega), IntWalk.i64_in _ (by omega), IntWalk.i64_in _ (by omega), IntWalk.i64_in _ (by omega), IntWalk.i64_in _ (by omega)⟩, ⟨by simp; omega, by omega⟩⟩
set_option maxHeartbeats 32000000 in
set_option maxRecDepth 20000 in
theorem law_det (s t : ByteArray) (w : World) (hs : s.size ≤ maxLen) (ht : t.size ≤ maxLen) : Calls Tryd.prog 8 #[.string s, .string t] w fun e w' => e = .returned (.bool true) ∧ Keeps w w' := by
  have cA := fun W => awake_c W
  have cS := fun W => lettersab_c s hs 15 (by omega) W
  have cT := fun W => lettersab_c t ht 15 (by omega) W
  simp only [show ((15 : Nat) : Int) = 15 from rfl] at cS cT
  obtain ⟨a, b, c, g, hok, cL, cR, cC⟩ := det_head (lts 97 98 15 s) (lts 97 98 15 t) (lts_len _ _ _ _) (lts_len _ _ _ _) (lts_all _ _ _ _) (lts_all _ _ _ _)
  have z1 : (ByteArray.mk (lts 97 98 15 s).toArray).size ≤ 15 := by show (lts 97 98 15 s).toArray.size ≤ 15; rw [List.size_toArray]; exact lts_len _ _ _ _
  have z2 : (ByteArray.mk (lts 97 98 15 t).toArray).size ≤ 15 := by show (lts 97 98 15 t).toArray.size ≤ 15; rw [List.size_toArray]; exact lts_len _ _ _ _
  generalize (⟨(lts 97 98 15 s).toArray⟩ : ByteArray) = X at *
  generalize (⟨(lts 97 98 15 t).toArray⟩ : ByteArray) = Y at *
  obtain ⟨a1, a2, a3, a4⟩ := a
  obtain ⟨b1, b2, b3, b4⟩ := b
  obtain ⟨c1, c2, c3, c4⟩ := c
  obtain ⟨la, lb, lc, p1, p4, da, hg⟩ := hok
  simp only [leM, bdM, mv, mul, detM, Prod.mk.injEq] at la lb lc p1 p4 da hg cL cR cC
  obtain ⟨⟨la1, la2⟩, ⟨la3, la4⟩, ⟨la5, la6⟩, la7, la8⟩ := la
  obtain ⟨⟨lb1, lb2⟩, ⟨lb3, lb4⟩, ⟨lb5, lb6⟩, lb7, lb8⟩ := lb
  obtain ⟨⟨lc1, lc2⟩, ⟨lc3, lc4⟩, ⟨lc5, lc6⟩, lc7, lc8⟩ := lc
  have hD := Lib.hid da
  have hG := Lib.hid hg
  clear da hg
  go_enter Tryd.func8, Tryd.ntmps8
  go_upto_region 8 with (first
    | (go_at_call 22; first | (with_reducible refine (cS _).mono ?_; rintro e w1 ⟨rfl, h1⟩) | (with_reducible refine (cT _).mono ?_; rintro e w2 ⟨rfl, h2⟩))
    | (go_at_call 23; with_reducible refine (cL _).mono ?_; rintro e w3 ⟨rfl, h3⟩; have k3 : Keeps w (w3.alloc (.cells #[.int .i64 a1, .int .i64 a2, .int .i64 a3, .int .i64 a4] 45)) := Keeps.alloc (Keeps.next (Keeps.next h1 h2) h3) _; have hA3 := At.new w3 45 #[.int .i64 a1, .int .i64 a2, .int .i64 a3, .int .i64 a4])
    | (go_at_call 23; with_reducible refine (cR _).mono ?_; rintro e w4 ⟨rfl, h4⟩; have k4 : Keeps w (w4.alloc (.cells #[.int .i64 b1, .int .i64 b2, .int .i64 b3, .int .i64 b4] 45)) := Keeps.alloc (Keeps.next k3 h4) _; have hA4 := (hA3.later h4).alloc (.cells #[.int .i64 b1, .int .i64 b2, .int .i64 b3, .int .i64 b4] 45); have hB4 := At.new w4 45 #[.int .i64 b1, .int .i64 b2, .int .i64 b3, .int .i64 b4])
    | (go_at_call 23; with_reducible refine (cC _).mono ?_; rintro e w5 ⟨rfl, h5⟩; have k5 : Keeps w (w5.alloc (.cells #[.int .i64 c1, .int .i64 c2, .int .i64 c3, .int .i64 c4] 45)) := Keeps.alloc (Keeps.next k4 h5) _; have hA5 := (hA4.later h5).alloc (.cells #[.int .i64 c1, .int .i64 c2, .int .i64 c3, .int .i64 c4] 45); have hB5 := (hB4.later h5).alloc (.cells #[.int .i64 c1, .int .i64 c2, .int .i64 c3, .int .i64 c4] 45); have hC5 := At.new w5 45 #[.int .i64 c1, .int .i64 c2, .int .i64 c3, .int .i64 c4]))
  have na1 : decide (a1 < 0) = false := by simp; omega
  have ma1 : decide (1099511627776 < a1) = false := by simp; omega
  have na2 : decide (a2 < 0) = false := by simp; omega
  have ma2 : decide (1099511627776 < a2) = false := by simp; omega
  have na3 : decide (a3 < 0) = false := by simp; omega
  have ma3 : decide (1099511627776 < a3) = false := by simp; omega
  have na4 : decide (a4 < 0) = false := by simp; omega
  have ma4 : decide (1099511627776 < a4) = false := by simp; omega
  have nb1 : decide (b1 < 0) = false := by simp; omega
  have mb1 : decide (1099511627776 < b1) = false := by simp; omega
  have nb2 : decide (b2 < 0) = false := by simp; omega
  have mb2 : decide (1099511627776 < b2) = false := by simp; omega
  have nb3 : decide (b3 < 0) = false := by simp; omega
  have mb3 : decide (1099511627776 < b3) = false := by simp; omega
  have nb4 : decide (b4 < 0) = false := by simp; omega
  have mb4 : decide (1099511627776 < b4) = false := by simp; omega
  have nc1 : decide (c1 < 0) = false := by simp; omega
  have nc2 : decide (c2 < 0) = false := by simp; omega
  have nc3 : decide (c3 < 0) = false := by simp; omega
  have nc4 : decide (c4 < 0) = false := by simp; omega
  have o1 : decide (1 ≤ a1) = true := by simp; omega
  have o4 : decide (1 ≤ a4) = true := by simp; omega
  have lA := Lib.hid (show (0 ≤ a1 ∧ 0 ≤ a2 ∧ 0 ≤ a3 ∧ 0 ≤ a4) ∧ (0 ≤ b1 ∧ 0 ≤ b2 ∧ 0 ≤ b3 ∧ 0 ≤ b4) ∧ (0 ≤ c1 ∧ 0 ≤ c2 ∧ 0 ≤ c3 ∧ 0 ≤ c4) by omega)
  clear la1 la2 la3 la4 la5 la6 la7 la8 lb1 lb2 lb3 lb4 lb5 lb6 lb7 lb8 lc1 lc2 lc3 lc4 lc5 lc6 lc7 lc8 p1 p4 z1 z2
  go_loopw [13] (fun s13 wr => ∃ j : Nat, j ≤ 4 ∧ s13 = .int .i64 j ∧ Keeps w wr ∧ At wr w3.heap.size 45 #[.int .i64 a1, .int .i64 a2, .int .i64 a3, .int .i64 a4] ∧ At wr w4.heap.size 45 #[.int .i64 b1, .int .i64 b2, .int .i64 b3, .int .i64 b4] ∧ At wr w5.heap.size 45 #[.int .i64 c1, .int .i64 c2, .int .i64 c3, .int .i64 c4]) (fun s13 _ => 5 - (intOf s13).toNat)
  case atStart => exact ⟨0, by omega, rfl, k5, hA5, hB5, hC5⟩
  case round =>
    obtain ⟨j, hj, rfl, hkr, hAr, hBr, hCr⟩ := hrel
    have x1 := (row_mv (m := (a1, a2, a3, a4)) hAr).1
    have x2 := (row_mv (m := (a1, a2, a3, a4)) hAr).2.1
    have x3 := (row_mv (m := (a1, a2, a3, a4)) hAr).2.2.1
    have x4 := (row_mv (m := (a1, a2, a3, a4)) hAr).2.2.2
    have y1 := (row_mv (m := (b1, b2, b3, b4)) hBr).1
    have y2 := (row_mv (m := (b1, b2, b3, b4)) hBr).2.1
    have y3 := (row_mv (m := (b1, b2, b3, b4)) hBr).2.2.1
    have y4 := (row_mv (m := (b1, b2, b3, b4)) hBr).2.2.2
    have z1 := (row_mv (m := (c1, c2, c3, c4)) hCr).1
    have z2 := (row_mv (m := (c1, c2, c3, c4)) hCr).2.1
    have z3 := (row_mv (m := (c1, c2, c3, c4)) hCr).2.2.1
    have z4 := (row_mv (m := (c1, c2, c3, c4)) hCr).2.2.2
    have hjc : j = 0 ∨ j = 1 ∨ j = 2 ∨ j = 3 ∨ j = 4 := by omega
    rcases hjc with rfl | rfl | rfl | rfl | rfl
    · go_wp2_with fail
      go_roundw
      case rel => exact ⟨1, by omega, by go_num, hkr, hAr, hBr, hCr⟩
      case measure => simp [intOf]
    · go_wp2_with fail
      go_roundw
      case rel => exact ⟨2, by omega, by go_num, hkr, hAr, hBr, hCr⟩
      case measure => simp [intOf]
    · go_wp2_with fail
      go_roundw
      case rel => exact ⟨3, by omega, by go_num, hkr, hAr, hBr, hCr⟩
      case measure => simp [intOf]
    · go_wp2_with fail
      go_roundw
      case rel => exact ⟨4, by omega, by go_num, hkr, hAr, hBr, hCr⟩
      case measure => simp [intOf]
    · have hP := At.new wr 22 #[.int .i64 2147483647, .int .i64 2147483629, .int .i64 2147483587]
      have hA6 := hAr.alloc (.cells #[.int .i64 2147483647, .int .i64 2147483629, .int .i64 2147483587] 22)
      have hB6 := hBr.alloc (.cells #[.int .i64 2147483647, .int .i64 2147483629, .int .i64 2147483587] 22)
      have hC6 := hCr.alloc (.cells #[.int .i64 2147483647, .int .i64 2147483629, .int .i64 2147483587] 22)
      have k6 : Keeps w (wr.alloc (.cells #[.int .i64 2147483647, .int .i64 2147483629, .int .i64 2147483587] 22)) := Keeps.alloc hkr _
      obtain ⟨p1, hp1⟩ : ∃ p : Int, (2147483647 : Int) = p := ⟨_, rfl⟩
      obtain ⟨p2, hp2⟩ : ∃ p : Int, (2147483629 : Int) = p := ⟨_, rfl⟩
      obtain ⟨p3, hp3⟩ : ∃ p : Int, (2147483587 : Int) = p := ⟨_, rfl⟩
      have hP6 : At (wr.alloc (.cells #[.int .i64 2147483647, .int .i64 2147483629, .int .i64 2147483587] 22)) wr.heap.size 22 #[.int .i64 p1, .int .i64 p2, .int .i64 p3] := by rw [← hp1, ← hp2, ← hp3]; exact hP
      have hpp := Lib.hid (show (2 ≤ p1 ∧ p1 ≤ 2147483647) ∧ (2 ≤ p2 ∧ p2 ≤ 2147483647) ∧ (2 ≤ p3 ∧ p3 ≤ 2147483647) by omega)
      clear hp1 hp2 hp3 hP x1 x2 x3 x4 y1 y2 y3 y4 z1 z2 z3 z4
      go_upto_region 14 with fail
      generalize wr.heap.size = gP at *
      go_loopw [15] (fun s15 wq => ∃ i : Nat, i ≤ 3 ∧ s15 = .int .i64 i ∧ Keeps w wq ∧ At wq w3.heap.size 45 #[.int .i64 a1, .int .i64 a2, .int .i64 a3, .int .i64 a4] ∧ At wq w4.heap.size 45 #[.int .i64 b1, .int .i64 b2, .int .i64 b3, .int .i64 b4] ∧ At wq w5.heap.size 45 #[.int .i64 c1, .int .i64 c2, .int .i64 c3, .int .i64 c4] ∧ At wq gP 22 #[.int .i64 p1, .int .i64 p2, .int .i64 p3]) (fun s15 _ => 4 - (intOf s15).toNat)
      case atStart => exact ⟨0, by omega, rfl, k6, hA6, hB6, hC6, hP6⟩
      case round =>
        obtain ⟨i, hi, rfl, hkq, hAq, hBq, hCq, hPq⟩ := hrel
        have x1 := (row_mv (m := (a1, a2, a3, a4)) hAq).1
        have x2 := (row_mv (m := (a1, a2, a3, a4)) hAq).2.1
        have x3 := (row_mv (m := (a1, a2, a3, a4)) hAq).2.2.1
        have x4 := (row_mv (m := (a1, a2, a3, a4)) hAq).2.2.2
        have u1 := (hPq.cell 0).trans rfl
        have u2 := (hPq.cell 1).trans rfl
        have u3 := (hPq.cell 2).trans rfl
        have hic : i < 3 ∨ i = 3 := by omega
        rcases hic with hi3 | rfl
        · obtain ⟨p, hbp, hcp⟩ : ∃ p : Int, (2 ≤ p ∧ p ≤ 2147483647) ∧ wr.cell? ⟨gP, i, none⟩ = some (.int .i64 p) := by
            have hb := hpp.out
            rcases (show i = 0 ∨ i = 1 ∨ i = 2 by omega) with rfl | rfl | rfl
            · exact ⟨p1, hb.1, u1⟩
            · exact ⟨p2, hb.2.1, u2⟩
            · exact ⟨p3, hb.2.2, u3⟩
          clear u1 u2 u3
          have hpp := Lib.hid hbp
          clear hbp
          have hl := lA.out; have hb := hpp.out
          obtain ⟨A, B, C, D, M, N, X9, E, F, ⟨f1, f2, f3, f4, f5, f6, f7, f8, f9⟩, ⟨v1, v2, v3, v4, v5, v6, v7, v8, v9⟩, ⟨vp, vq⟩, hE⟩ := det_facts a1 a2 a3 a4 p (by omega) (by omega) (by omega) (by omega) (by omega) (by omega) hD.out
          clear hl hb
          rcases hE with hE | ⟨hE, hF⟩
          · rcases hG.out with ⟨rfl, g1, g2, g3, g4⟩ | rfl
            · have hg1 := Lib.hid g1; have hg2 := Lib.hid g2; have hg3 := Lib.hid g3; have hg4 := Lib.hid g4
              clear g1 g2 g3 g4 hG
              go_upto_region 17 with fail
              go_quiet (fail)
              clear f1 f2 f3 f4 f5 f6 f7 f8 f9 v1 v2 v3 v4 v5 v6 v7 v8 v9 hE
              go_upto_region 21 with fail
              clear x1 x2 x3 x4 hcp
              go_loopw [17] (fun s17 wv => ∃ k : Nat, k ≤ 4 ∧ s17 = .int .i64 k ∧ Keeps w wv ∧ At wv w3.heap.size 45 #[.int .i64 a1, .int .i64 a2, .int .i64 a3, .int .i64 a4] ∧ At wv w4.heap.size 45 #[.int .i64 b1, .int .i64 b2, .int .i64 b3, .int .i64 b4] ∧ At wv w5.heap.size 45 #[.int .i64 c1, .int .i64 c2, .int .i64 c3, .int .i64 c4] ∧ At wv gP 22 #[.int .i64 p1, .int .i64 p2, .int .i64 p3]) (fun s17 _ => 5 - (intOf s17).toNat)
              case atStart => exact ⟨0, by omega, rfl, by first | exact below_drewN hkq | exact hkq, by first | exact hAq.drewN _ | exact hAq, by first | exact hBq.drewN _ | exact hBq, by first | exact hCq.drewN _ | exact hCq, by first | exact hPq.drewN _ | exact hPq⟩
              case round =>
                obtain ⟨k, hk, rfl, hkv, hAv, hBv, hCv, hPv⟩ := hrel
                have x1 := (row_mv (m := (a1, a2, a3, a4)) hAv).1
                have x2 := (row_mv (m := (a1, a2, a3, a4)) hAv).2.1
                have x3 := (row_mv (m := (a1, a2, a3, a4)) hAv).2.2.1
                have x4 := (row_mv (m := (a1, a2, a3, a4)) hAv).2.2.2
                have y1 := (row_mv (m := (b1, b2, b3, b4)) hBv).1
                have y2 := (row_mv (m := (b1, b2, b3, b4)) hBv).2.1
                have y3 := (row_mv (m := (b1, b2, b3, b4)) hBv).2.2.1
                have y4 := (row_mv (m := (b1, b2, b3, b4)) hBv).2.2.2
                have z1 := (row_mv (m := (c1, c2, c3, c4)) hCv).1
                have z2 := (row_mv (m := (c1, c2, c3, c4)) hCv).2.1
                have z3 := (row_mv (m := (c1, c2, c3, c4)) hCv).2.2.1
                have z4 := (row_mv (m := (c1, c2, c3, c4)) hCv).2.2.2
                have hkc : k = 0 ∨ k = 1 ∨ k = 2 ∨ k = 3 ∨ k = 4 := by omega
                rcases hkc with rfl | rfl | rfl | rfl | rfl
                · have hl := lA.out; have hb := hpp.out
                  obtain ⟨A, B, C, D, M, N, O, Q9, X9, Q, ⟨f1, f2, f3, f4, f5, f6, f7, f8, f9, f10, f11⟩, ⟨v1, v2, v3, v4, v5, v6, v7, v8, v9, v10⟩, ⟨vp, vq⟩⟩ := mul_facts a1 b1 a2 b3 p c1 (by omega) (by omega) (by omega) (by omega) (by omega) (by omega) (by omega) hg1.out
                  clear hl hb
                  go_upto_region 24 with fail
                  go_quiet (fail)
                  go_wp2_with fail
                  go_roundw
                  case rel => exact ⟨1, by omega, by go_num, by first | exact below_drewN hkv | exact hkv, by first | exact hAv.drewN _ | exact hAv, by first | exact hBv.drewN _ | exact hBv, by first | exact hCv.drewN _ | exact hCv, by first | exact hPv.drewN _ | exact hPv⟩
                  case measure => simp [intOf]
                · have hl := lA.out; have hb := hpp.out
                  obtain ⟨A, B, C, D, M, N, O, Q9, X9, Q, ⟨f1, f2, f3, f4, f5, f6, f7, f8, f9, f10, f11⟩, ⟨v1, v2, v3, v4, v5, v6, v7, v8, v9, v10⟩, ⟨vp, vq⟩⟩ := mul_facts a1 b2 a2 b4 p c2 (by omega) (by omega) (by omega) (by omega) (by omega) (by omega) (by omega) hg2.out
                  clear hl hb
                  go_upto_region 24 with fail
                  go_quiet (fail)
                  go_wp2_with fail
                  go_roundw
                  case rel => exact ⟨2, by omega, by go_num, by first | exact below_drewN hkv | exact hkv, by first | exact hAv.drewN _ | exact hAv, by first | exact hBv.drewN _ | exact hBv, by first | exact hCv.drewN _ | exact hCv, by first | exact hPv.drewN _ | exact hPv⟩
                  case measure => simp [intOf]
                · have hl := lA.out; have hb := hpp.out
                  obtain ⟨A, B, C, D, M, N, O, Q9, X9, Q, ⟨f1, f2, f3, f4, f5, f6, f7, f8, f9, f10, f11⟩, ⟨v1, v2, v3, v4, v5, v6, v7, v8, v9, v10⟩, ⟨vp, vq⟩⟩ := mul_facts a3 b1 a4 b3 p c3 (by omega) (by omega) (by omega) (by omega) (by omega) (by omega) (by omega) hg3.out
                  clear hl hb
                  go_upto_region 24 with fail
                  go_quiet (fail)
                  go_wp2_with fail
                  go_roundw
                  case rel => exact ⟨3, by omega, by go_num, by first | exact below_drewN hkv | exact hkv, by first | exact hAv.drewN _ | exact hAv, by first | exact hBv.drewN _ | exact hBv, by first | exact hCv.drewN _ | exact hCv, by first | exact hPv.drewN _ | exact hPv⟩
                  case measure => simp [intOf]
                · have hl := lA.out; have hb := hpp.out
                  obtain ⟨A, B, C, D, M, N, O, Q9, X9, Q, ⟨f1, f2, f3, f4, f5, f6, f7, f8, f9, f10, f11⟩, ⟨v1, v2, v3, v4, v5, v6, v7, v8, v9, v10⟩, ⟨vp, vq⟩⟩ := mul_facts a3 b2 a4 b4 p c4 (by omega) (by omega) (by omega) (by omega) (by omega) (by omega) (by omega) hg4.out
                  clear hl hb
                  go_upto_region 24 with fail
                  go_quiet (fail)
                  go_wp2_with fail
                  go_roundw
                  case rel => exact ⟨4, by omega, by go_num, by first | exact below_drewN hkv | exact hkv, by first | exact hAv.drewN _ | exact hAv, by first | exact hBv.drewN _ | exact hBv, by first | exact hCv.drewN _ | exact hCv, by first | exact hPv.drewN _ | exact hPv⟩
                  case measure => simp [intOf]
                · go_wp2_with fail
                  go_roundw
                  case rel => first | exact ⟨i + 1, by omega, by go_num, hkv, hAv, hBv, hCv, hPv⟩ | exact ⟨_, _, _, _, _, _, _, _, _, _, _, _, _, _, _, _, _, _, _, _, _, _, _, _, _, _, _, _, _, _, _, _, _, _, _, _, _, _, _, _, _, _, _, _, _, _, _, _, _, _, _, _, _, _, _, _, _, _, _, _, _, _, _, _, _, _, _, _, _, _, _, _, _, _, _, _, _, _, _, _, _, _, _, _, _, _, _, _, _, _, _, _, _, _, _, _, _, _, _, _, _, _, _, _, _, _, _, _, ⟨i + 1, by omega, by go_num, hkv, hAv, hBv, hCv, hPv⟩, rfl⟩ | exact ⟨_, _, _, _, _, _, _, _, _, _, _, _, _, _, _, _, _, _, _, _, _, _, _, _, _, _, _, _, _, _, _, _, _, _, _, _, _, _, _, _, _, _, _, _, _, _, _, _, _, _, _, _, _, _, _, _, _, _, _, _, _, _, _, _, _, _, _, _, _, _, _, _, _, _, _, _, _, _, _, _, _, _, _, _, _, _, _, _, _, _, _, _, _, _, _, _, _, _, _, _, _, _, _, _, _, _, _, _, _, ⟨i + 1, by omega, by go_num, hkv, hAv, hBv, hCv, hPv⟩, rfl⟩ | exact ⟨_, _, _, _, _, _, _, _, _, _, _, _, _, _, _, _, _, _, _, _, _, _, _, _, _, _, _, _, _, _, _, _, _, _, _, _, _, _, _, _, _, _, _, _, _, _, _, _, _, _, _, _, _, _, _, _, _, _, _, _, _, _, _, _, _, _, _, _, _, _, _, _, _, _, _, _, _, _, _, _, _, _, _, _, _, _, _, _, _, _, _, _, _, _, _, _, _, _, _, _, _, _, _, _, _, _, _, ⟨i + 1, by omega, by go_num, hkv, hAv, hBv, hCv, hPv⟩, rfl⟩ | exact ⟨_, _, _, _, _, _, _, _, _, _, _, _, _, _, _, _, _, _, _, _, _, _, _, _, _, _, _, _, _, _, _, _, _, _, _, _, _, _, _, _, _, _, _, _, _, _, _, _, _, _, _, _, _, _, _, _, _, _, _, _, _, _, _, _, _, _, _, _, _, _, _, _, _, _, _, _, _, _, _, _, _, _, _, _, _, _, _, _, _, _, _, _, _, _, _, _, _, _, _, _, _, _, _, _, _, _, _, _, _, _, ⟨i + 1, by omega, by go_num, hkv, hAv, hBv, hCv, hPv⟩, rfl⟩ | exact ⟨_, _, _, _, _, _, _, _, _, _, _, _, _, _, _, _, _, _, _, _, _, _, _, _, _, _, _, _, _, _, _, _, _, _, _, _, _, _, _, _, _, _, _, _, _, _, _, _, _, _, _, _, _, _, _, _, _, _, _, _, _, _, _, _, _, _, _, _, _, _, _, _, _, _, _, _, _, _, _, _, _, _, _, _, _, _, _, _, _, _, _, _, _, _, _, _, _, _, _, _, _, _, _, _, _, _, ⟨i + 1, by omega, by go_num, hkv, hAv, hBv, hCv, hPv⟩, rfl⟩ | exact ⟨_, _, _, _, _, _, _, _, _, _, _, _, _, _, _, _, _, _, _, _, _, _, _, _, _, _, _, _, _, _, _, _, _, _, _, _, _, _, _, _, _, _, _, _, _, _, _, _, _, _, _, _, _, _, _, _, _, _, _, _, _, _, _, _, _, _, _, _, _, _, _, _, _, _, _, _, _, _, _, _, _, _, _, _, _, _, _, _, _, _, _, _, _, _, _, _, _, _, _, _, _, _, _, _, _, _, _, _, _, _, _, ⟨i + 1, by omega, by go_num, hkv, hAv, hBv, hCv, hPv⟩, rfl⟩
                  case measure => simp [intOf]; try omega
            · go_upto_region 17 with fail
              go_quiet (fail)
              go_wp2_with fail
              go_roundw
              case rel => exact ⟨i + 1, by omega, by go_num, by first | exact below_drewN hkq | exact hkq, by first | exact hAq.drewN _ | exact hAq, by first | exact hBq.drewN _ | exact hBq, by first | exact hCq.drewN _ | exact hCq, by first | exact hPq.drewN _ | exact hPq⟩
              case measure => simp [intOf]; try omega
          · rcases hG.out with ⟨rfl, g1, g2, g3, g4⟩ | rfl
            · have hg1 := Lib.hid g1; have hg2 := Lib.hid g2; have hg3 := Lib.hid g3; have hg4 := Lib.hid g4
              clear g1 g2 g3 g4 hG
              go_upto_region 17 with fail
              go_quiet (fail)
              clear f1 f2 f3 f4 f5 f6 f7 f8 f9 v1 v2 v3 v4 v5 v6 v7 v8 v9 hE hF
              go_upto_region 21 with fail
              clear x1 x2 x3 x4 hcp
              go_loopw [17] (fun s17 wv => ∃ k : Nat, k ≤ 4 ∧ s17 = .int .i64 k ∧ Keeps w wv ∧ At wv w3.heap.size 45 #[.int .i64 a1, .int .i64 a2, .int .i64 a3, .int .i64 a4] ∧ At wv w4.heap.size 45 #[.int .i64 b1, .int .i64 b2, .int .i64 b3, .int .i64 b4] ∧ At wv w5.heap.size 45 #[.int .i64 c1, .int .i64 c2, .int .i64 c3, .int .i64 c4] ∧ At wv gP 22 #[.int .i64 p1, .int .i64 p2, .int .i64 p3]) (fun s17 _ => 5 - (intOf s17).toNat)
              case atStart => exact ⟨0, by omega, rfl, by first | exact below_drewN hkq | exact hkq, by first | exact hAq.drewN _ | exact hAq, by first | exact hBq.drewN _ | exact hBq, by first | exact hCq.drewN _ | exact hCq, by first | exact hPq.drewN _ | exact hPq⟩
              case round =>
                obtain ⟨k, hk, rfl, hkv, hAv, hBv, hCv, hPv⟩ := hrel
                have x1 := (row_mv (m := (a1, a2, a3, a4)) hAv).1
                have x2 := (row_mv (m := (a1, a2, a3, a4)) hAv).2.1
                have x3 := (row_mv (m := (a1, a2, a3, a4)) hAv).2.2.1
                have x4 := (row_mv (m := (a1, a2, a3, a4)) hAv).2.2.2
                have y1 := (row_mv (m := (b1, b2, b3, b4)) hBv).1
                have y2 := (row_mv (m := (b1, b2, b3, b4)) hBv).2.1
                have y3 := (row_mv (m := (b1, b2, b3, b4)) hBv).2.2.1
                have y4 := (row_mv (m := (b1, b2, b3, b4)) hBv).2.2.2
                have z1 := (row_mv (m := (c1, c2, c3, c4)) hCv).1
                have z2 := (row_mv (m := (c1, c2, c3, c4)) hCv).2.1
                have z3 := (row_mv (m := (c1, c2, c3, c4)) hCv).2.2.1
                have z4 := (row_mv (m := (c1, c2, c3, c4)) hCv).2.2.2
                have hkc : k = 0 ∨ k = 1 ∨ k = 2 ∨ k = 3 ∨ k = 4 := by omega
                rcases hkc with rfl | rfl | rfl | rfl | rfl
                · have hl := lA.out; have hb := hpp.out
                  obtain ⟨A, B, C, D, M, N, O, Q9, X9, Q, ⟨f1, f2, f3, f4, f5, f6, f7, f8, f9, f10, f11⟩, ⟨v1, v2, v3, v4, v5, v6, v7, v8, v9, v10⟩, ⟨vp, vq⟩⟩ := mul_facts a1 b1 a2 b3 p c1 (by omega) (by omega) (by omega) (by omega) (by omega) (by omega) (by omega) hg1.out
                  clear hl hb
                  go_upto_region 24 with fail
                  go_quiet (fail)
                  go_wp2_with fail
                  go_roundw
                  case rel => exact ⟨1, by omega, by go_num, by first | exact below_drewN hkv | exact hkv, by first | exact hAv.drewN _ | exact hAv, by first | exact hBv.drewN _ | exact hBv, by first | exact hCv.drewN _ | exact hCv, by first | exact hPv.drewN _ | exact hPv⟩
                  case measure => simp [intOf]
                · have hl := lA.out; have hb := hpp.out
                  obtain ⟨A, B, C, D, M, N, O, Q9, X9, Q, ⟨f1, f2, f3, f4, f5, f6, f7, f8, f9, f10, f11⟩, ⟨v1, v2, v3, v4, v5, v6, v7, v8, v9, v10⟩, ⟨vp, vq⟩⟩ := mul_facts a1 b2 a2 b4 p c2 (by omega) (by omega) (by omega) (by omega) (by omega) (by omega) (by omega) hg2.out
                  clear hl hb
                  go_upto_region 24 with fail
                  go_quiet (fail)
                  go_wp2_with fail
                  go_roundw
                  case rel => exact ⟨2, by omega, by go_num, by first | exact below_drewN hkv | exact hkv, by first | exact hAv.drewN _ | exact hAv, by first | exact hBv.drewN _ | exact hBv, by first | exact hCv.drewN _ | exact hCv, by first | exact hPv.drewN _ | exact hPv⟩
                  case measure => simp [intOf]
                · have hl := lA.out; have hb := hpp.out
                  obtain ⟨A, B, C, D, M, N, O, Q9, X9, Q, ⟨f1, f2, f3, f4, f5, f6, f7, f8, f9, f10, f11⟩, ⟨v1, v2, v3, v4, v5, v6, v7, v8, v9, v10⟩, ⟨vp, vq⟩⟩ := mul_facts a3 b1 a4 b3 p c3 (by omega) (by omega) (by omega) (by omega) (by omega) (by omega) (by omega) hg3.out
                  clear hl hb
                  go_upto_region 24 with fail
                  go_quiet (fail)
                  go_wp2_with fail
                  go_roundw
                  case rel => exact ⟨3, by omega, by go_num, by first | exact below_drewN hkv | exact hkv, by first | exact hAv.drewN _ | exact hAv, by first | exact hBv.drewN _ | exact hBv, by first | exact hCv.drewN _ | exact hCv, by first | exact hPv.drewN _ | exact hPv⟩
                  case measure => simp [intOf]
                · have hl := lA.out; have hb := hpp.out
                  obtain ⟨A, B, C, D, M, N, O, Q9, X9, Q, ⟨f1, f2, f3, f4, f5, f6, f7, f8, f9, f10, f11⟩, ⟨v1, v2, v3, v4, v5, v6, v7, v8, v9, v10⟩, ⟨vp, vq⟩⟩ := mul_facts a3 b2 a4 b4 p c4 (by omega) (by omega) (by omega) (by omega) (by omega) (by omega) (by omega) hg4.out
                  clear hl hb
                  go_upto_region 24 with fail
                  go_quiet (fail)
                  go_wp2_with fail
                  go_roundw
                  case rel => exact ⟨4, by omega, by go_num, by first | exact below_drewN hkv | exact hkv, by first | exact hAv.drewN _ | exact hAv, by first | exact hBv.drewN _ | exact hBv, by first | exact hCv.drewN _ | exact hCv, by first | exact hPv.drewN _ | exact hPv⟩
                  case measure => simp [intOf]
                · go_wp2_with fail
                  go_roundw
                  case rel => first | exact ⟨i + 1, by omega, by go_num, hkv, hAv, hBv, hCv, hPv⟩ | exact ⟨_, _, _, _, _, _, _, _, _, _, _, _, _, _, _, _, _, _, _, _, _, _, _, _, _, _, _, _, _, _, _, _, _, _, _, _, _, _, _, _, _, _, _, _, _, _, _, _, _, _, _, _, _, _, _, _, _, _, _, _, _, _, _, _, _, _, _, _, _, _, _, _, _, _, _, _, _, _, _, _, _, _, _, _, _, _, _, _, _, _, _, _, _, _, _, _, _, _, _, _, _, _, _, _, _, _, _, _, ⟨i + 1, by omega, by go_num, hkv, hAv, hBv, hCv, hPv⟩, rfl⟩ | exact ⟨_, _, _, _, _, _, _, _, _, _, _, _, _, _, _, _, _, _, _, _, _, _, _, _, _, _, _, _, _, _, _, _, _, _, _, _, _, _, _, _, _, _, _, _, _, _, _, _, _, _, _, _, _, _, _, _, _, _, _, _, _, _, _, _, _, _, _, _, _, _, _, _, _, _, _, _, _, _, _, _, _, _, _, _, _, _, _, _, _, _, _, _, _, _, _, _, _, _, _, _, _, _, _, _, _, _, _, _, _, ⟨i + 1, by omega, by go_num, hkv, hAv, hBv, hCv, hPv⟩, rfl⟩ | exact ⟨_, _, _, _, _, _, _, _, _, _, _, _, _, _, _, _, _, _, _, _, _, _, _, _, _, _, _, _, _, _, _, _, _, _, _, _, _, _, _, _, _, _, _, _, _, _, _, _, _, _, _, _, _, _, _, _, _, _, _, _, _, _, _, _, _, _, _, _, _, _, _, _, _, _, _, _, _, _, _, _, _, _, _, _, _, _, _, _, _, _, _, _, _, _, _, _, _, _, _, _, _, _, _, _, _, _, _, ⟨i + 1, by omega, by go_num, hkv, hAv, hBv, hCv, hPv⟩, rfl⟩ | exact ⟨_, _, _, _, _, _, _, _, _, _, _, _, _, _, _, _, _, _, _, _, _, _, _, _, _, _, _, _, _, _, _, _, _, _, _, _, _, _, _, _, _, _, _, _, _, _, _, _, _, _, _, _, _, _, _, _, _, _, _, _, _, _, _, _, _, _, _, _, _, _, _, _, _, _, _, _, _, _, _, _, _, _, _, _, _, _, _, _, _, _, _, _, _, _, _, _, _, _, _, _, _, _, _, _, _, _, _, _, _, _, ⟨i + 1, by omega, by go_num, hkv, hAv, hBv, hCv, hPv⟩, rfl⟩ | exact ⟨_, _, _, _, _, _, _, _, _, _, _, _, _, _, _, _, _, _, _, _, _, _, _, _, _, _, _, _, _, _, _, _, _, _, _, _, _, _, _, _, _, _, _, _, _, _, _, _, _, _, _, _, _, _, _, _, _, _, _, _, _, _, _, _, _, _, _, _, _, _, _, _, _, _, _, _, _, _, _, _, _, _, _, _, _, _, _, _, _, _, _, _, _, _, _, _, _, _, _, _, _, _, _, _, _, _, ⟨i + 1, by omega, by go_num, hkv, hAv, hBv, hCv, hPv⟩, rfl⟩ | exact ⟨_, _, _, _, _, _, _, _, _, _, _, _, _, _, _, _, _, _, _, _, _, _, _, _, _, _, _, _, _, _, _, _, _, _, _, _, _, _, _, _, _, _, _, _, _, _, _, _, _, _, _, _, _, _, _, _, _, _, _, _, _, _, _, _, _, _, _, _, _, _, _, _, _, _, _, _, _, _, _, _, _, _, _, _, _, _, _, _, _, _, _, _, _, _, _, _, _, _, _, _, _, _, _, _, _, _, _, _, _, _, _, ⟨i + 1, by omega, by go_num, hkv, hAv, hBv, hCv, hPv⟩, rfl⟩
                  case measure => simp [intOf]; try omega
            · go_upto_region 17 with fail
              go_quiet (fail)
              go_wp2_with fail
              go_roundw
              case rel => exact ⟨i + 1, by omega, by go_num, by first | exact below_drewN hkq | exact hkq, by first | exact hAq.drewN _ | exact hAq, by first | exact hBq.drewN _ | exact hBq, by first | exact hCq.drewN _ | exact hCq, by first | exact hPq.drewN _ | exact hPq⟩
              case measure => simp [intOf]; try omega
        · rcases hG.out with ⟨rfl, -⟩ | rfl
          · go_wp2_with (go_at_call 12; refine (cA _).mono ?_; rintro e w7 ⟨rfl, h7⟩; have k7 := Keeps.next hkq h7)
            go_ret
            exact ⟨rfl, k7⟩
          · go_wp2_with (go_at_call 12; refine (cA _).mono ?_; rintro e w7 ⟨rfl, h7⟩; have k7 := Keeps.next hkq h7)
            go_ret
            exact ⟨rfl, k7⟩
end Go.Proofs.YteffkcnlipdgaaaDoor
