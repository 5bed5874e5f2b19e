/- The law Completes. -/
import Derived.Test.YtdlnmmhdgjjcfaaWi
import Derived.Test.YtdlnmmhdgjjcfaaVl
namespace Go.Proofs.Ytdlnmmhdgjjcfaa
open Go.RowKit Go.Shelf
set_option linter.unusedVariables false
set_option linter.unusedSimpArgs false

theorem rows_le : ∀ (n : Nat) (l : List Int), (∀ x ∈ l, 0 ≤ x ∧ x < n) → l.Nodup → l.length ≤ n
  | 0, [], _, _ => Nat.le_refl _
  | 0, a :: l, h, _ => by have := h a (by simp); omega
  | n + 1, l, h, hd => by
    by_cases hm : (n : Int) ∈ l
    · have h1 := rows_le n (l.erase n) (fun x hx => by
        have h2 := (List.Nodup.mem_erase_iff hd).1 hx
        have := h x h2.2
        have := h2.1
        omega) (hd.erase _)
      rw [List.length_erase_of_mem hm] at h1
      omega
    · have := rows_le n l (fun x hx => by
        have := h x hx
        have : x ≠ n := fun e => hm (e ▸ hx)
        omega) hd
      omega
theorem rowsB_le {n : Nat} {l : List Int} (h : rowsB n l = true) : l.length ≤ n := by
  unfold rowsB at h
  simp only [Bool.and_eq_true, decide_eq_true_eq] at h
  exact rows_le n l (fun x hx => (hasB_iff _ _).1 (List.all_eq_true.1 h.1 x hx)) h.2
theorem startB_eq (l : List Int) (n : Nat) : startB l n = rowsB n l := by
  unfold startB
  cases h : rowsB n l with
  | false => rw [Bool.and_false]
  | true => rw [decide_eq_true (by have := rowsB_le h; omega)]; rfl
set_option maxHeartbeats 1000000 in
theorem listc_c (v : Value) (l : List Int) (w : World) (hv : RdI w v l) (hcap : Cap v) :
    Calls Try.prog 7 #[v] w fun e w' => ∃ A c, e = .returned (.slice A (l.take 17).length c) ∧ (l.take 17).length ≤ c ∧ RdI w' (.slice A (l.take 17).length c) (l.take 17) ∧ Keeps w w' := by
  obtain ⟨A, c, rfl, hm, hcs⟩ := id hv
  have hc1 := cap_len hcap
  unfold maxLen at hm
  obtain ⟨i0, hi, hz0, hz1, hz2⟩ := info_parts infoI
  by_cases h0 : l.length = 0
  · obtain rfl := List.eq_nil_of_length_eq_zero h0
    have hmin : min (0 : Int) 17 = 0 := by decide
    clear hcs hv hcap
    go_enter Try.func7, Try.ntmps7
    go_wp2_with (refine wpList_append_none rfl _ _ 22 rfl 3 i0 Try.underlying22 hi rfl A c rfl ?_)
    go_ret
    exact ⟨none, 0, rfl, Nat.le_refl _, ⟨none, 0, rfl, by unfold maxLen; simp, fun k hk => by simp at hk⟩, Below.refl _ _⟩
  · obtain ⟨b, off, u0, rfl, c0, hu0⟩ := hcs 0 (by omega)
    have hcell : ∀ m, m ≤ l.length → ∀ j u, ((l.take m).map (Value.int .i64))[j]? = some u → w.cell? ((⟨b, off, none⟩ : Addr).add j) = some u := by
      intro m hm j u hu
      have hlen : (l.take m).length = m := by rw [List.length_take]; omega
      have hj := (List.getElem?_eq_some_iff.1 hu).1
      rw [List.length_map, hlen] at hj
      obtain ⟨b', off', u', hA, hcell', hu'⟩ := hcs j (by omega)
      cases hA
      have hu2 : u' = .int .i64 (nth l j) := hu'
      rw [show ((⟨b, off, none⟩ : Addr).add j) = ⟨b, off + j, none⟩ from by unfold Addr.add; split <;> simp_all, hcell', hu2, ← hu]
      simp [nth, show j < l.length by omega, show j < m from hj]
    have hfin : ∀ (m : Nat) (v' : Value) (w4 : World), 0 < m → m ≤ 17 → (l.take m).length = m → w4.ownsRow w.heap.size 3 1 v' (0 + m) ([] ++ (l.take m).map (Value.int .i64)) → w.grownBy w4 (Value.slice none 0 0).ownBlock → ∃ A c, v' = .slice A (l.take m).length c ∧ (l.take m).length ≤ c ∧ RdI w4 (.slice A (l.take m).length c) (l.take m) ∧ Keeps w w4 := by
      intro m v' w4 m1 m3 hl hown4 hgrow4
      rw [Nat.zero_add, List.nil_append] at hown4
      obtain ⟨g, cap, rfl, hg, hgl, hcp, -, -⟩ := own_form hown4 m1
      refine ⟨some ⟨g, 0, none⟩, cap, by rw [hl], by rw [hl]; exact hcp, ?_, (Below.refl _ w).grown hgrow4 (Nat.le_refl _) (fun r hr => by simp [Value.ownBlock] at hr)⟩
      have := own_ints (l := l.take m) (by rw [hl]; exact hown4) (by rw [hl]; unfold maxLen; omega)
      rw [hl]
      exact this.rd
    have Hfin := Lib.hid hfin
    clear hfin hcs hv hcap c0 hu0
    by_cases h17 : l.length ≤ 17
    · have hte : l.take 17 = l.take l.length := by rw [List.take_of_length_le h17, List.take_of_length_le (Nat.le_refl _)]
      have Hlen := Lib.hid (show (l.take l.length).length = l.length by simp)
      have Hcell := Lib.hid (hcell l.length (Nat.le_refl _))
      rw [hte]
      have q1 : (l.length : Int) ≤ 17 := by omega
      have q2 : decide ((17 : Int) < l.length) = false := by simp; omega
      have q3 : decide ((17 : Int) ≤ l.length) = decide (l.length = 17) := by rw [decide_eq_decide]; omega
      have m1 : 0 < l.length := by omega
      have B1 : 0 + l.length ≤ maxLen := by unfold maxLen; omega
      clear hcell hte h0
      by_cases h16 : (17 : Int) ≤ l.length
      all_goals
        go_enter Try.func7, Try.ntmps7
        go_wp2_with (first | (at_builtin; refine wpList_append_own _ rfl _ _ 22 rfl w.heap.size 3 i0 _ 1 8 Try.underlying22 hi hz0 hz1 hz2 rfl (by decide) _ 0 [] rfl (World.ownsRow_nil _ _ _ _) ⟨b, off, none⟩ l.length c ((l.take l.length).map (Value.int .i64)) (by first | rfl | (show Value.slice _ _ _ = _; congr 1; omega)) (by rw [List.length_map, Hlen.out, Nat.mul_one]) Hcell.out (fun u hu => by obtain ⟨x, _, rfl⟩ := List.mem_map.1 hu; rfl) B1 (by omega) (Nat.le_refl _) ?_; intro v' w4 hown4 hgrow4 _))
        refine bodyPost_ret (results_tmp (t := 2) (by rfl) _ _ _) rfl ?_
        obtain ⟨A', c', rfl, hc', h2, h3⟩ := Hfin.out l.length v' w4 m1 h17 Hlen.out hown4 hgrow4
        refine ⟨A', c', ?_, by simpa using hc', ?_, h3⟩
        · first
            | rfl
            | (show Ending.returned (.slice A' (List.take l.length l).length c') = _; rw [List.take_length])
        · first
            | exact h2
            | (rw [List.take_length] at h2; exact h2)
    · have Hlen := Lib.hid (show (l.take 17).length = 17 by rw [List.length_take]; omega)
      have Hcell := Lib.hid (hcell 17 (by omega))
      have q1 : (17 : Int) < l.length := by omega
      have q2 : (17 : Int) ≤ l.length := by omega
      have q3 : (17 : Int) ≤ c := by omega
      have q4 : decide ((l.length : Int) ≤ 17) = false := by simp; omega
      have q5 : decide ((l.length : Int) < 17) = false := by simp; omega
      have B1 : 0 + 17 ≤ maxLen := by unfold maxLen; omega
      clear hcell h0 h17
      go_enter Try.func7, Try.ntmps7
      go_wp2_with (at_builtin; refine wpList_append_own _ rfl _ _ 22 rfl w.heap.size 3 i0 _ 1 8 Try.underlying22 hi hz0 hz1 hz2 rfl (by decide) _ 0 [] rfl (World.ownsRow_nil _ _ _ _) ⟨b, off, none⟩ 17 c ((l.take 17).map (Value.int .i64)) rfl (by rw [List.length_map, Hlen.out, Nat.mul_one]) Hcell.out (fun u hu => by obtain ⟨x, _, rfl⟩ := List.mem_map.1 hu; rfl) B1 (by omega) (Nat.le_refl _) ?_; intro v' w4 hown4 hgrow4 _)
      go_ret
      obtain ⟨A', c', rfl, hc', h2, h3⟩ := Hfin.out 17 v' w4 (by omega) (by omega) Hlen.out hown4 hgrow4
      exact ⟨A', c', rfl, by first | exact hc' | simpa using hc', h2, h3⟩

set_option maxHeartbeats 1000000 in
theorem complete_no (v : Value) (l : List Int) (n : Int) (h : cntB n = false ∨ (cntB n = true ∧ rowsB n l = false)) (w : World) (hv : RdI w v l) :
    Calls Try.prog 8 #[v, .int .i64 n] w fun e w' => e = .returned (.tuple #[.slice none 0 0, .int .i64 2]) ∧ Keeps w w' := by
  have hic := fun x => isCounted_c n x
  rcases h with h | ⟨h, h2⟩
  · rw [h] at hic
    clear h
    go_enter Try.func8, Try.ntmps8
    go_wp2_with (go_at_call 22; refine (hic _).mono ?_; rintro e w1 ⟨rfl, rfl⟩)
    obtain ⟨W, hW⟩ : ∃ W, (w.alloc (.cells #[.slice none 0 0] 22)).alloc (.cells #[.int .i64 2] 24) = W := ⟨_, rfl⟩
    have z1 : At W w.heap.size 22 #[.slice none 0 0] := by rw [← hW]; exact (At.new w _ _).alloc _
    have z2 : At W (w.heap.size + 1) 24 #[.int .i64 2] := by rw [← hW]; exact At.new2 w _ _ _
    have hk : Keeps w W := by rw [← hW]; exact Keeps.alloc (Keeps.alloc (Below.refl _ _) _) _
    rw [hW]
    refine bodyPost_ret (v := .tuple #[.slice none 0 0, .int .i64 2]) (results_2 Try.results8 _ _ w.heap.size (w.heap.size + 1) _ _ rfl rfl (z1.cell 0) (z2.cell 0) (Try.isAgg22 _) (Try.isAgg24 _)) rfl ?_
    exact ⟨rfl, hk⟩
  · have hn : n ≤ 7 := by unfold cntB at h; have := of_decide_eq_true h; omega
    have har := fun x hx => areRows_c v l n (by omega) x hx
    rw [h] at hic
    rw [h2] at har
    clear h h2
    go_enter Try.func8, Try.ntmps8
    go_wp2_with (go_at_call 22; refine (hic _).mono ?_; rintro e w1 ⟨rfl, rfl⟩)
    refine (har _ (hv.below (Keeps.alloc (Keeps.alloc (Below.refl _ _) _) _))).mono ?_
    rintro e w1 ⟨rfl, hb1⟩
    have z1 : At w1 w.heap.size 22 #[.slice none 0 0] := ((At.new w _ _).alloc _).later hb1
    have z2 : At w1 (w.heap.size + 1) 24 #[.int .i64 0] := (At.new2 w _ _ _).later hb1
    have hk1 : Keeps w w1 := Keeps.next (Keeps.alloc (Keeps.alloc (Below.refl _ _) _) _) hb1
    have c1 := z1.cell 0
    have c2 := z2.cell 0
    have f1 := z1.frozen 0
    have f2 := z2.frozen 0
    simp only [List.getElem?_toArray, List.getElem?_cons_zero] at c1 c2
    clear har
    go_wp2_with fail
    have g1 := ((z1.set 0 (.slice none 0 0)).far (p := ⟨w.heap.size + 1, 0, none⟩) (by simp) (.int .i64 2)).cell 0
    have g2 := ((z2.far (p := ⟨w.heap.size, 0, none⟩) (by simp) (.slice none 0 0)).set 0 (.int .i64 2)).cell 0
    refine bodyPost_ret (v := .tuple #[.slice none 0 0, .int .i64 2]) (results_2 Try.results8 _ _ w.heap.size (w.heap.size + 1) _ _ rfl rfl g1 g2 (Try.isAgg22 _) (Try.isAgg24 _)) rfl ?_
    exact ⟨rfl, (hk1.setCell (by simp <;> omega) _).setCell (by simp <;> omega) _⟩
set_option maxHeartbeats 2000000 in
set_option maxRecDepth 100000 in
theorem law_completes (v0 : Value) (l0 : List Int) (n : Int) (w : World) (hv : RdI w v0 l0) (hf : fits l0) (hcap : Cap v0) (hn : (Lit.int .i64 n).wf = true) :
    Calls Try.prog 3 #[v0, .int .i64 n] w fun e w' => e = .returned (.bool true) ∧ Keeps w w' := by
  have hli := listc_c v0 l0 w hv hcap
  have h17 : (l0.take 17).length ≤ 17 := by rw [List.length_take]; omega
  generalize l0.take 17 = l at *
  clear hv hf hcap
  go_enter Try.func3, Try.ntmps3
  go_wp2_with (go_at_call 7; refine hli.mono ?_; rintro e w1 ⟨A, c, rfl, hlc, hl, hb1⟩)
  clear hli
  have hrs := fun X h => rstart_c (.slice A l.length c) l n X (hl.below h)
  have h17I : (l.length : Int) ≤ 17 := by omega
  cases hB : cntB n with
  | false =>
    have hcn := complete_no (.slice A l.length c) l n (.inl hB) w1 hl
    have hor : n < 1 ∨ (¬ n < 1 ∧ 7 < n) := by
      unfold cntB at hB
      have := of_decide_eq_false hB
      omega
    clear hB hn hrs
    rcases hor with h | ⟨h1, h2⟩
    · go_wp2_with fail
      refine hcn.mono ?_
      rintro e w2 ⟨rfl, hb2⟩
      go_wp2_with (go_at_call 10; refine (awake_c _).mono ?_; rintro e w4 ⟨rfl, hb4⟩)
      go_ret
      exact ⟨rfl, (hb1.next hb2).next hb4⟩
    · have d1 : decide (n < 1) = false := decide_eq_false h1
      clear h1
      go_wp2_with fail
      refine hcn.mono ?_
      rintro e w2 ⟨rfl, hb2⟩
      go_wp2_with (go_at_call 10; refine (awake_c _).mono ?_; rintro e w4 ⟨rfl, hb4⟩)
      go_ret
      exact ⟨rfl, (hb1.next hb2).next hb4⟩
  | true =>
    have hnn : 1 ≤ n ∧ n ≤ 7 := by unfold cntB at hB; exact of_decide_eq_true hB
    obtain ⟨d, rfl⟩ := Int.eq_ofNat_of_zero_le (show 0 ≤ n by omega)
    have d1 : 1 ≤ d := by omega
    have d7 : d ≤ 7 := by omega
    have q1 : decide ((d : Int) < 1) = false := by simp; omega
    have q2 : decide ((7 : Int) < d) = false := by simp; omega
    rw [startB_eq] at hrs
    cases hR : rowsB d l with
    | false =>
      have hcn := complete_no (.slice A l.length c) l d (.inr ⟨hB, hR⟩) w1 hl
      rw [hR] at hrs
      clear hB hn hnn hR
      go_wp2_with fail
      refine hcn.mono ?_
      rintro e w2 ⟨rfl, hb2⟩
      go_wp2_with (first
        | (go_at_call 9; refine (hrs _ hb2).mono ?_; rintro e w3 ⟨rfl, hb3⟩)
        | (go_at_call 10; refine (awake_c _).mono ?_; rintro e w4 ⟨rfl, hb4⟩))
      go_ret
      exact ⟨rfl, ((hb1.next hb2).next hb3).next hb4⟩
    | true =>
      have hle := rowsB_le hR
      have hrc := fun X h => rcomplete_c d d7 A c l.length l rfl hle X (hl.below h)
      have hbf := begin_first d l hR hle
      rw [hbf] at hrc
      rw [hR] at hrs
      cases hF : (clrs l d)[0]? with
      | none =>
        have hcn := complete_none d d1 d7 A c l.length l rfl hle hR hlc hF w1 hl
        have hfn := fun e w' h => fnd_none (f := (clrs l d)[0]?) (e := e) (w' := w') h hF
        clear hB hn hnn hR hF hbf
        generalize (clrs l d)[0]? = f at *
        go_wp2_with fail
        refine hcn.mono ?_
        rintro e w2 ⟨rfl, hb2⟩
        go_wp2_with (first
          | (go_at_call 9; refine (hrs _ hb2).mono ?_; rintro e w3 ⟨rfl, hb3⟩)
          | (go_at_call 11; refine (hrc _ (hb2.next hb3)).mono ?_; rintro e w5 ⟨hfd, hb5⟩; obtain rfl := hfn _ _ hfd)
          | (go_at_call 10; refine (awake_c _).mono ?_; rintro e w4 ⟨rfl, hb4⟩))
        go_ret
        exact ⟨rfl, (((hb1.next hb2).next hb3).next hb5).next hb4⟩
      | some x =>
        have hcn := complete_some d d1 d7 A c l.length l rfl hle hR hlc x hF w1 hl
        have hfn := fun e w' h => fnd_some (f := (clrs l d)[0]?) (x := x) (e := e) (w' := w') h hF
        clear hB hn hnn hR hF hbf
        generalize (clrs l d)[0]? = f at *
        go_wp2_with fail
        refine hcn.mono ?_
        rintro e w2 ⟨b, cc, rfl, hxl, hcc, hx2, hb2⟩
        clear hxl
        go_upto_region 8 with (first
          | (go_at_call 9; refine (hrs _ hb2).mono ?_; rintro e w3 ⟨rfl, hb3⟩)
          | (go_at_call 11; refine (hrc _ (hb2.next hb3)).mono ?_; rintro e w5 ⟨hfd, hb5⟩; obtain ⟨v, rfl, hr⟩ := hfn _ _ hfd))
        have hin := fun X h => ints_eq (.slice (some ⟨b, 0, none⟩) d cc) v x X (hx2.below ((hb3.next hb5).next h)) (hr.below h)
        go_wp2_with (first
          | (go_at_call 12; refine (hin _ (Below.refl _ _)).mono ?_; rintro e w6 ⟨rfl, hb6⟩)
          | (go_at_call 10; refine (awake_c _).mono ?_; rintro e w7 ⟨rfl, hb7⟩))
        go_ret
        exact ⟨rfl, ((((hb1.next hb2).next hb3).next hb5).next hb6).next hb7⟩
end Go.Proofs.Ytdlnmmhdgjjcfaa
