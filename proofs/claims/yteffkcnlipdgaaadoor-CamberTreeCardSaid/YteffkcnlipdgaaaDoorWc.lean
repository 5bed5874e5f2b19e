/- The law's tame. -/
import Derived.Test.YteffkcnlipdgaaaDoorWa
import Derived.Test.YteffkcnlipdgaaaDoorWb
namespace Go.Proofs.YteffkcnlipdgaaaDoor
open Go.RowKit
set_option linter.unusedVariables false
set_option linter.unusedSimpArgs false

theorem results_tmp_row {P : Program} {fn : Func} {p u : Tmp} {t1 : TypeId} (hr : fn.results = #[.tmp u, .cell p t1]) (tmps : Array Value) (w : World) (g1 : Nat) (s1 : TypeId) (cs : Array Value) (d : TypeDesc)
    (hp : tmps.getD p undef = .pointer (some ⟨g1, 0, none⟩)) (hg : At w g1 s1 cs) (hd : P.underlying t1 = some d) (hdd : (match d with | .struct _ | .array _ _ => true | _ => false) = true) (hi : (P.info? t1).map (·.size) = some cs.size) :
    (results fn tmps).run P w = .ok (.tuple #[tmps.getD u undef, .agg cs]) w := by
  have hp' : tmps[p]?.getD undef = .pointer (some ⟨g1, 0, none⟩) := by simpa using hp
  have e1 : (loadVar t1 ⟨g1, 0, none⟩).run P w = .ok (.agg cs) w := run_loadVar_row w g1 s1 t1 cs (0, 0) d hg hd hdd hi
  simp [results, hr, hp', asAddr, Sem.run_bind, e1, Result.andThen]
/-- What tame answers: a path with its triple. -/
def TameR (e : Ending) : Prop := ∃ (p : ByteArray) (t : Ed), p.size ≤ 60 ∧ (p.data.toList.all fun c => [76, 82].contains c) = true ∧ folF (1, 2, 5) p.data.toList = some t ∧ e = .returned (.tuple #[.string p, .agg #[.int .i64 t.1, .int .i64 t.2.1, .int .i64 t.2.2]])
theorem extract_list (b : ByteArray) (k : Nat) : (b.extract 0 k).data.toList = b.data.toList.take k := by
  rw [ByteArray.data_extract, Array.toList_extract]
  simp
def optV : Option Ed → Ed | some t => t | none => (0, 0, 0)
theorem fol_any (p : ByteArray) (hs : p.size ≤ 100) (hw : (p.data.toList.all fun c => [76, 82].contains c) = true) (r : Option Ed) (hr : folF (1, 2, 5) p.data.toList = r) (w : World) :
    Calls Tryd.prog 24 #[.string p] w fun e w' => e = .returned (.tuple #[.agg #[.int .i64 (optV r).1, .int .i64 (optV r).2.1, .int .i64 (optV r).2.2], .bool r.isSome]) ∧ Keeps w w' := by
  have h := refFollow_c p hs hw w
  rw [hr] at h
  cases r <;> exact h
set_option maxHeartbeats 8000000 in
set_option maxRecDepth 20000 in
theorem tame_c (s : ByteArray) (hs : s.size ≤ maxLen) (w : World) :
    Calls Tryd.prog 9 #[.string s] w fun e w' => TameR e ∧ Keeps w w' := by
  have cL := fun W => lettersLR_c s hs 60 (by decide) W
  have hX := At.new w 22 #[.int .i64 0, .int .i64 0, .int .i64 0]
  have hk : Keeps w (w.alloc (.cells #[.int .i64 0, .int .i64 0, .int .i64 0] 22)) := Keeps.alloc (Below.refl _ _) _
  have hall := lts_all 76 82 60 s
  have hlen := lts_len 76 82 60 s
  obtain ⟨p0, hp0⟩ : ∃ p0 : ByteArray, (⟨(lts 76 82 60 s).toArray⟩ : ByteArray) = p0 := ⟨_, rfl⟩
  have hl0 : p0.data.toList = lts 76 82 60 s := by rw [← hp0]
  rw [hp0] at cL
  have hz0 : p0.size ≤ 60 := by rw [show p0.size = p0.data.toList.length from (Array.length_toList).symm, hl0]; exact hlen
  rw [← hl0] at hall
  clear hp0 hl0 hlen hs
  obtain ⟨r0, hr0⟩ : ∃ r0, folF (1, 2, 5) p0.data.toList = r0 := ⟨_, rfl⟩
  have c0 := fun W => fol_any p0 (by omega) hall r0 hr0 W
  generalize hv0 : optV r0 = v0 at *
  generalize hb0 : r0.isSome = b0 at *
  have HV0 := Lib.hid hv0
  have HB0 := Lib.hid hb0
  clear hv0 hb0
  go_enter Tryd.func9, Tryd.ntmps9
  go_wp2_with (first
    | (go_at_call 22; refine (cL _).mono ?_; rintro e w1 ⟨rfl, h1⟩; have hX1 := hX.later h1; have k1 := Keeps.next hk h1)
    | (go_at_call 24; refine (c0 _).mono ?_; rintro e w2 ⟨rfl, h2⟩; have hX2 := (hX1.later h2).alloc (.cells #[.int .i64 v0.1, .int .i64 v0.2.1, .int .i64 v0.2.2] 22); have hB2 := At.new w2 22 #[.int .i64 v0.1, .int .i64 v0.2.1, .int .i64 v0.2.2]; have k2 : Keeps w (w2.alloc (.cells #[.int .i64 v0.1, .int .i64 v0.2.1, .int .i64 v0.2.2] 22)) := Keeps.alloc (Keeps.next k1 h2) _; have hne : w.heap.size < w2.heap.size := by (have a1 := h1.size; have a2 := h2.size; simp at a1; omega)))
  generalize w2.alloc (.cells #[.int .i64 v0.1, .int .i64 v0.2.1, .int .i64 v0.2.2] 22) = Z at *
  generalize w2.heap.size = gB at *
  clear hX hk hX1 k1 h1 h2 cL c0
  go_loopw [4, 6] (fun s4 s6 wr => ∃ (p : ByteArray) (r : Option Ed), p.size ≤ 60 ∧ (p.data.toList.all fun c => [76, 82].contains c) = true ∧ folF (1, 2, 5) p.data.toList = r ∧ s4 = .string p ∧ s6 = .bool r.isSome ∧ At wr gB 22 #[.int .i64 (optV r).1, .int .i64 (optV r).2.1, .int .i64 (optV r).2.2] ∧ At wr w.heap.size 22 #[.int .i64 0, .int .i64 0, .int .i64 0] ∧ Keeps w wr) (fun s4 _ _ => strLen s4)
  case atStart => exact ⟨p0, r0, hz0, hall, hr0, rfl, by rw [HB0.out], by rw [HV0.out]; exact hB2, hX2, k2⟩
  case round =>
    obtain ⟨p, r, hz, hal, hr, rfl, rfl, hat, hA, hkr⟩ := hrel
    clear hB2 hX2 k2
    cases r with
    | some t =>
      obtain ⟨t1, t2, t3⟩ := t
      simp only [optV, Option.isSome_some] at hat ⊢
      go_wp2_with fail
      refine region_any_inv (G := Unit) (f := ?ft) (fun _ => [.string p, .agg #[.int .i64 t1, .int .i64 t2, .int .i64 t3], .string p, undef])
        (fun _ L w' => At w' w.heap.size 22 (bif L 3 then #[.int .i64 t1, .int .i64 t2, .int .i64 t3] else #[.int .i64 0, .int .i64 0, .int .i64 0]) ∧ Keeps w w' ∧ At w' gB 22 #[.int .i64 t1, .int .i64 t2, .int .i64 t3]) () (fun _ => ?hft) (by kernel_rfl) (by kernel_rfl) ⟨hA.drew, keeps_dr hkr, hat.drew⟩ ?stepst ?fint
      case hft =>
        simp only [fill, List.toList_toArray, List.zip_cons_cons, List.zip_nil_left, List.zip_nil_right, List.foldl_cons, List.foldl_nil, Act.put, List.setIfInBounds_toArray, List.set_cons_succ, List.set_cons_zero]
        exact rfl
      case stepst =>
        refine StepsU.cons rfl (fun g L w' hL hr hc hF => ?_) ?_
        · have A0 : At w' w.heap.size 22 (bif L 3 then #[.int .i64 t1, .int .i64 t2, .int .i64 t3] else #[.int .i64 0, .int .i64 0, .int .i64 0]) := hF.1
          have k3 : Keeps w w' := hF.2.1
          have B0 : At w' gB 22 #[.int .i64 t1, .int .i64 t2, .int .i64 t3] := hF.2.2
          clear hF hc hr
          clear hat hA hkr
          refine StepU.go rfl (fun K hK => ?_)
          go_simp
          exact hK () _ ⟨A0, k3, B0⟩
        refine StepsU.cons rfl (fun g L w' hL hr hc hF => ?_) ?_
        · have A0 : At w' w.heap.size 22 (bif L 3 then #[.int .i64 t1, .int .i64 t2, .int .i64 t3] else #[.int .i64 0, .int .i64 0, .int .i64 0]) := hF.1
          have k3 : Keeps w w' := hF.2.1
          have B0 : At w' gB 22 #[.int .i64 t1, .int .i64 t2, .int .i64 t3] := hF.2.2
          have p1 := (row_six B0).1
          have p2 := (row_six B0).2.1
          have p3 := (row_six B0).2.2.1
          clear hF hc hr
          clear hat hA hkr
          refine StepU.go rfl (fun K hK => ?_)
          go_simp
          exact hK () _ ⟨A0, k3, B0⟩
        refine StepsU.cons rfl (fun g L w' hL hr hc hF => ?_) ?_
        · have A0 : At w' w.heap.size 22 (bif L 3 then #[.int .i64 t1, .int .i64 t2, .int .i64 t3] else #[.int .i64 0, .int .i64 0, .int .i64 0]) := hF.1
          have k3 : Keeps w w' := hF.2.1
          have B0 : At w' gB 22 #[.int .i64 t1, .int .i64 t2, .int .i64 t3] := hF.2.2
          clear hF hc hr
          clear hat hA hkr
          refine StepU.go rfl (fun K hK => ?_)
          go_simp
          exact hK () _ ⟨A0, k3, B0⟩
        refine StepsU.cons rfl (fun g L w' hL hr hc hF => ?_) ?_
        · have A0 : At w' w.heap.size 22 (bif L 3 then #[.int .i64 t1, .int .i64 t2, .int .i64 t3] else #[.int .i64 0, .int .i64 0, .int .i64 0]) := hF.1
          have k3 : Keeps w w' := hF.2.1
          have B0 : At w' gB 22 #[.int .i64 t1, .int .i64 t2, .int .i64 t3] := hF.2.2
          rw [hL, cond_false] at A0
          obtain ⟨r1, r2, r3, r4, r5, r6⟩ := row_six A0
          clear hF hc hr
          clear hat hA hkr
          refine StepU.go rfl (fun K hK => ?_)
          go_simp
          exact hK () _ ⟨by rw [add_same, cond_true]; exact A0.three _ _ _, Below.setCell (Below.setCell (Below.setCell k3 (by simp) _) (by simp) _) (by simp) _, ((B0.far ((by omega : gB ≠ w.heap.size)) _).far ((by omega : gB ≠ w.heap.size)) _).far ((by omega : gB ≠ w.heap.size)) _⟩
        exact StepsU.nil (by simp)
      case fint =>
      intro g L w5 hall hF
      have A1 : At w5 w.heap.size 22 (bif L 3 then #[.int .i64 t1, .int .i64 t2, .int .i64 t3] else #[.int .i64 0, .int .i64 0, .int .i64 0]) := hF.1
      have k5 : Keeps w w5 := hF.2.1
      have B0 : At w5 gB 22 #[.int .i64 t1, .int .i64 t2, .int .i64 t3] := hF.2.2
      rw [hall 3 (by simp), cond_true] at A1
      clear hall hF
      clear hat hA hkr
      go_wp2_with fail
      exact bodyPost_ret (v := .tuple #[.string p, .agg #[.int .i64 t1, .int .i64 t2, .int .i64 t3]]) (results_tmp_row Tryd.results9 _ _ w.heap.size _ _ _ rfl A1 Tryd.underlying22 rfl (size3 _ _ _)) rfl ⟨⟨p, (t1, t2, t3), hz, hal, hr, rfl⟩, k5⟩
    | none =>
      simp only [optV, Option.isSome_none] at hat ⊢
      have hpos : 0 < p.size := by
        rcases Nat.eq_zero_or_pos p.size with h | h
        · have h2 : p.data.toList = [] := List.eq_nil_of_length_eq_zero (by rw [Array.length_toList]; exact h)
          rw [h2] at hr
          cases hr
        · exact h
      obtain ⟨q, hq⟩ : ∃ q, p.extract 0 (p.size - 1) = q := ⟨_, rfl⟩
      have hql : q.data.toList = p.data.toList.take (p.size - 1) := by rw [← hq]; exact extract_list _ _
      have hqs : q.size = p.size - 1 := by
        rw [show q.size = q.data.toList.length from (Array.length_toList).symm, hql, List.length_take, Array.length_toList]
        show min (p.size - 1) p.size = _
        omega
      have hqa : (q.data.toList.all fun c => [76, 82].contains c) = true := by
        rw [hql, List.all_eq_true]
        intro c hc
        exact List.all_eq_true.1 hal c (List.mem_of_mem_take hc)
      obtain ⟨r1, hr1⟩ : ∃ r1, folF (1, 2, 5) q.data.toList = r1 := ⟨_, rfl⟩
      have c1 := fun W => fol_any q (by omega) hqa r1 hr1 W
      generalize hv1 : optV r1 = v1 at *
      generalize hb1 : r1.isSome = b1 at *
      have HV1 := Lib.hid hv1
      have HB1 := Lib.hid hb1
      have hq2 : p.extract 0 ((p.size : Int) - 1).toNat = q := by rw [show ((p.size : Int) - 1).toNat = p.size - 1 by omega]; exact hq
      have hposI : 1 ≤ (p.size : Int) := by omega
      have hzI : (p.size : Int) ≤ 60 := by omega
      have Hqs := Lib.hid hqs
      have Hqa := Lib.hid hqa
      have Hr1 := Lib.hid hr1
      have Hz := Lib.hid hz
      have Hq := Lib.hid hq
      clear hv1 hb1 hql hr hq hal hqs hqa hr1 hz hpos hq2
      go_upto_region 5 with fail
      rw [Hq.out]
      go_wp2_with (first
        | (go_at_call 24; refine (c1 _).mono ?_; rintro e w3 ⟨rfl, h3⟩; have hB3 := hat.later h3; have hA3 := hA.later h3; have k3 := Keeps.next hkr h3)
        | (refine wpList_store_row rfl 22 _ _ rfl gB #[.int .i64 v1.1, .int .i64 v1.2.1, .int .i64 v1.2.2] rfl rfl 22 #[.int .i64 0, .int .i64 0, .int .i64 0] hB3 (size3 _ _ _) rfl (oneT _ _ _) ?_))
      have h9 := hB3.row #[.int .i64 v1.1, .int .i64 v1.2.1, .int .i64 v1.2.2]
      have h8 := hA3.rowfar (by omega : w.heap.size ≠ gB) #[.int .i64 v1.1, .int .i64 v1.2.1, .int .i64 v1.2.2]
      go_roundw
      case rel => exact ⟨q, r1, by have := Hqs.out; have := Hz.out; omega, Hqa.out, Hr1.out, rfl, by rw [HB1.out], by show At _ gB 22 #[.int .i64 (optV r1).1, .int .i64 (optV r1).2.1, .int .i64 (optV r1).2.2]; rw [HV1.out]; exact h9, h8, below_row k3 (by omega) _⟩
      case measure =>
        have := Hqs.out
        show q.size < p.size
        omega
end Go.Proofs.YteffkcnlipdgaaaDoor
