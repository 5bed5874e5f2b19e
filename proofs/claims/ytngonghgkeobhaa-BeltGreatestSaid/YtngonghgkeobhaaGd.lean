/- The reference's Values. -/
import Derived.Test.YtngonghgkeobhaaEd
import Derived.Test.YtngonghgkeobhaaEe
namespace Go.Proofs.Ytngonghgkeobhaa
open Go.RowKit Go.Shelf
set_option linter.unusedVariables false
set_option linter.unusedSimpArgs false

/-- Appending nothing, whatever both are. -/
theorem wpList_append_any0 {P : Program} {ops : Array Oper} {rest : List Oper} {o : Oper} {a : Act} {w : World} {Q : Exit → Act → World → Prop} (hgd : o.guard = none) (s x : Operand) (t : TypeId)
    (ho : o.op = .call { callee := .builtin .append, args := #[s, x], argTypes := #[t, t] }) (e : TypeId) (i : TypeInfo) (ht : P.underlying t = some (.slice e)) (hi : P.info? e = some i)
    (v : Value) (hv : v = .slice none 0 0 ∨ ∃ B n cb, v = .slice (some B) n cb ∧ n ≤ cb) (hs : a.eval s = v) (A : Option Addr) (c : Nat) (hx : a.eval x = .slice A 0 c) (h : wpList P ops Q rest (a.put o.dst v) w) : wpList P ops Q (o :: rest) a w := by
  refine wpList_plain hgd fun K hK => ?_
  have hrun : (Builtin.append_ #[t, t] o.type #[v, .slice A 0 c]).run P w = .ok v w := by
    rcases hv with rfl | ⟨B, n, cb, rfl, hn⟩
    · cases A <;> simp [Builtin.append_, run_underlying ht, sizeOf, typeInfo, hi, Builtin.lenOf, Builtin.firstCells, loadCells, loadCellsFrom, storeCells]
    · cases A <;> simp [Builtin.append_, run_underlying ht, sizeOf, typeInfo, hi, Builtin.lenOf, Builtin.firstCells, loadCells, loadCellsFrom, storeCells, hn]
  unfold Oper.wp
  simp [execOp, ho, resolve, invoke, builtin, hs, hx, hrun, Result.andThen]
  exact hK _ _ h
theorem infoZ : (Try.prog.info? 3).map (fun i => (i.zero, i.size, i.bytes)) = some (some (.int .i64 0), 1, 8) := by kernel_rfl
/-- Appending what is read to a row of one's own. -/
theorem wpList_append_rdI {ops : Array Oper} {rest : List Oper} {o : Oper} {a : Act} {w : World} {Q : Exit → Act → World → Prop} (hgd : o.guard = none) (s x : Operand)
    (ho : o.op = .call { callee := .builtin .append, args := #[s, x], argTypes := #[22, 22] }) (base n : Nat) (v : Value) (ys : List Value) (hs : a.eval s = v) (hown : w.ownsRow base 3 1 v n ys) (hbase : base ≤ w.heap.size)
    (A : Option Addr) (m c : Nat) (l : List Int) (hx : a.eval x = .slice A m c) (hl : l.length = m) (hv : ∀ k, k < m → ∃ b off, A = some ⟨b, off, none⟩ ∧ w.cell? ⟨b, off + k, none⟩ = some (.int .i64 (nth l k))) (hlen : n + m ≤ 5000)
    (h : ∀ v' w', w'.ownsRow base 3 1 v' (n + m) (ys ++ l.map (Value.int .i64)) → w.grownBy w' v.ownBlock → wpList Try.prog ops Q rest (a.put o.dst v') w') : wpList Try.prog ops Q (o :: rest) a w := by
  obtain ⟨i0, hi, hz0, hz1, hz2⟩ := info_parts infoZ
  by_cases h0 : m = 0
  · subst h0
    obtain rfl := List.eq_nil_of_length_eq_zero hl
    refine wpList_append_any0 hgd s x 22 ho 3 i0 Try.underlying22 hi v ?_ hs A c hx (h _ _ (by simpa using hown) ⟨rfl, rfl, rfl, Nat.le_refl _, fun _ _ _ => rfl⟩)
    rcases hown.2 with ⟨hn, _⟩ | ⟨g, cap, cur, hn, _, _, h1, _⟩
    · exact .inl hn
    · exact .inr ⟨_, n, cap, hn, h1⟩
  · obtain ⟨b, off, rfl, _⟩ := hv 0 (by omega)
    refine wpList_append_own w hgd s x 22 ho base 3 i0 (.int .i64 0) 1 8 Try.underlying22 hi hz0 hz1 hz2 rfl (by decide) v n ys hs hown ⟨b, off, none⟩ m c (l.map (Value.int .i64)) hx (by simp [hl]) (fun j u hu => ?_)
      (fun u hu => by obtain ⟨x, _, rfl⟩ := List.mem_map.1 hu; rfl) (by unfold maxLen; omega) (by omega) hbase ?_
    · have hj := (List.getElem?_eq_some_iff.1 hu).1
      rw [List.length_map] at hj
      obtain ⟨b', o', e1, e2⟩ := hv j (by omega)
      cases e1
      rw [show ((⟨b, off, none⟩ : Addr).add j) = ⟨b, off + j, none⟩ from by unfold Addr.add; split <;> simp_all, e2, ← hu]
      simp [nth, hj]
    · intro v' w' ho hg _
      exact h v' w' ho hg
theorem own_low2 {w : World} {base base' size n : Nat} {e : TypeId} {v : Value} {xs : List Value} (h : w.ownsRow base e size v n xs) (hb : base' ≤ base) : w.ownsRow base' e size v n xs := by
  refine ⟨h.1, ?_⟩
  rcases h.2 with h | ⟨g, cap, cur, hv, h1, r⟩
  · exact .inl h
  · exact .inr ⟨g, cap, cur, hv, Nat.le_trans hb h1, r⟩
/-- Inserting into a sorted list. -/
theorem ins_sorted (xs : List Int) (V : Int) (k : Nat) (hk : k ≤ xs.length) (hs : xs.Pairwise (· < ·)) (h1 : ∀ j, j < k → nth xs j < V) (h2 : k < xs.length → V < nth xs k) : (xs.take k ++ [V] ++ xs.drop k).Pairwise (· < ·) ∧ (xs.take k ++ [V] ++ xs.drop k).length = xs.length + 1 ∧ ∀ x, x ∈ xs.take k ++ [V] ++ xs.drop k ↔ x ∈ xs ∨ x = V := by
  have e : xs.take k ++ xs.drop k = xs := List.take_append_drop k xs
  have ht : ∀ x ∈ xs.take k, x < V := fun x hx => by
    obtain ⟨j, hj, rfl⟩ := List.getElem_of_mem hx
    have hj2 : j < k := by rw [List.length_take] at hj; omega
    have := h1 j hj2
    rw [List.getElem_take]
    simpa [nth, List.getElem?_eq_getElem (show j < xs.length by omega)] using this
  have hd : ∀ x ∈ xs.drop k, V < x := fun x hx => by
    obtain ⟨j, hj, rfl⟩ := List.getElem_of_mem hx
    rw [List.length_drop] at hj
    have hkl : k < xs.length := by omega
    have h3 := h2 hkl
    rw [show nth xs k = xs[k] by simp [nth, List.getElem?_eq_getElem hkl]] at h3
    rw [List.getElem_drop]
    rcases Nat.eq_zero_or_pos j with rfl | hj0
    · simpa using h3
    · have := List.pairwise_iff_getElem.1 hs k (k + j) hkl (by omega) (by omega)
      omega
  refine ⟨?_, ?_, ?_⟩
  · rw [← e, List.pairwise_append] at hs
    rw [List.append_assoc, List.pairwise_append]
    refine ⟨hs.1, ?_, fun a ha b hb => ?_⟩
    · rw [List.singleton_append, List.pairwise_cons]
      exact ⟨hd, hs.2.1⟩
    · rw [List.singleton_append, List.mem_cons] at hb
      rcases hb with rfl | hb
      · exact ht a ha
      · exact hs.2.2 a ha b hb
  · simp; omega
  · intro x
    simp only [List.mem_append, List.mem_singleton]
    constructor
    · rintro ((h | h) | h)
      · exact .inl (List.mem_of_mem_take h)
      · exact .inr h
      · exact .inl (List.mem_of_mem_drop h)
    · rintro (h | h)
      · rw [← e, List.mem_append] at h
        rcases h with h | h
        · exact .inl (.inl h)
        · exact .inr h
      · exact .inl (.inr h)
set_option maxHeartbeats 8000000 in
set_option maxRecDepth 100000 in
theorem rvalues_c (v : Nat) (V : Value) (l : List Ed) (hv12 : v < 12) (hE : edgesOk l) (hbl : below (v + 1) l) (w : World) (hV : RdE w V l) :
    Calls Try.prog 28 #[.int .i64 ((v : Int) + 1), V] w fun e w' => ∃ (u : Value) (R : List Int), e = .returned u ∧ RdI w' u R ∧ R.Pairwise (· < ·) ∧ (∀ x, x ∈ R ↔ x ∈ (prp v).map fun s => valL s l) ∧ Keeps w w' := by
  have hall := fun X => all_c (v + 1) (by omega) X
  rw [show ((v + 1 : Nat) : Int) = (v : Int) + 1 by omega] at hall
  have hva := fun S X (hX : Keeps w X) => rvalue_T V l S (v + 1) (by omega) hE hbl X (hV.below hX)
  have hlen := sdl_length (v + 1)
  have hp := pow12 (v + 1) (by omega)
  have hp1 : 1 ≤ 2 ^ v := Nat.one_le_two_pow
  have hp2 : 2 ^ (v + 1) = 2 ^ v * 2 := Nat.pow_succ 2 v
  have hq : (((sdl (v + 1)).length : Int)).tdiv 2 = ((2 ^ v : Nat) : Int) := by rw [hlen, hp2, Int.tdiv_eq_ediv_of_nonneg (by omega)]; omega
  have hplen : (prp v).length = 2 ^ v := sds_length _ _
  have Hps := Lib.hid (fun k (hk : k < 2 ^ v) => prp_sd v k hk hv12)
  have Hvb := Lib.hid (fun x => val_in x l hE)
  have Hat := Lib.hid (fun k (h : k < 2 ^ (v + 1)) => sdl_at (v + 1) k h)
  obtain ⟨f, hf⟩ : ∃ f : Nat → Int, f = fun s => valL s l := ⟨_, rfl⟩
  have hfv : ∀ s, valL s l = f s := fun s => by rw [hf]
  simp only [hfv] at hva Hvb
  rw [← hf]
  obtain ⟨xs, hxs⟩ : ∃ xs, prp v = xs := ⟨_, rfl⟩
  rw [hxs] at hplen Hps
  rw [hxs]
  clear hf hfv hV hxs
  obtain ⟨SD, hSD⟩ : ∃ SD, sdl (v + 1) = SD := ⟨_, rfl⟩
  rw [hSD] at hall hlen hq Hat
  have Hlen := Lib.hid hlen
  obtain ⟨M, hM⟩ : ∃ M, 2 ^ v = M := ⟨_, rfl⟩
  rw [hM] at hq hp1 hp2 Hps hplen
  rw [hp2] at hlen hp Hat Hlen
  have hM2 : M ≤ 2048 := by omega
  have Hpl := Lib.hid hplen
  clear hSD hM hp2 hlen hplen
  have HhE := Lib.hid hE
  have Hhb := Lib.hid hbl
  clear hE hbl
  obtain ⟨i0, hi, hz0, hz1, hz2⟩ := info_parts infoZ
  go_enter Try.func28, Try.ntmps28
  go_upto_region 2 with (go_at_call 47; refine (hall _).mono ?_; rintro e w1 ⟨u, rfl, hr1, hb1⟩)
  obtain ⟨A, c, rfl, hm, hcs⟩ := id hr1
  have Hcs := Lib.hid hcs
  clear hcs hm
  rw [Hlen.out] at *
  go_wp2_with fail
  go_loopw [6, 7] (fun u i wr => ∃ (k : Nat) (r : List Int), k ≤ M ∧ i = .int .i64 k ∧ r.length ≤ k ∧ r.Pairwise (· < ·) ∧ (∀ x, x ∈ r ↔ x ∈ (xs.take k).map f) ∧ wr.ownsRow w.heap.size 3 1 u r.length (r.map (Value.int .i64)) ∧ Keeps w1 wr) (fun _ i _ => M - (intOf i).toNat)
  case atStart => exact ⟨0, [], Nat.zero_le _, rfl, Nat.le_refl _, List.Pairwise.nil, fun x => by simp, World.ownsRow_nil _ _ _ _, Below.refl _ _⟩
  case round =>
    obtain ⟨k, r, hk, rfl, hrk, hsr, hmr, hown, hb4⟩ := hrel
    generalize wr = w3 at *
    by_cases hkM : k < M
    · obtain ⟨b', off', u9, he, hcell, s1, hs1, rfl⟩ := Hcs.out k (by omega)
      cases he
      rw [Hat.out k (by omega), Option.some.injEq] at hs1
      subst hs1
      have hc4 := cell_keep hcell hb4
      have Hx := Lib.hid (Hps.out k hkM)
      generalize k * 2 ^ (12 - (v + 1)) = X at *
      have Htk := Lib.hid (show (xs.take (k + 1)).map f = (xs.take k).map f ++ [f X] by rw [take_at xs k X Hx.out, List.map_append]; rfl)
      have hvx := fun Z (hZ : Keeps w Z) => hva X Z hZ
      have hfX := Hvb.out X
      generalize f X = VX at *
      have hkI : (k : Int) < (M : Int) := by omega
      have hkI2 : (k : Int) < ((M * 2 : Nat) : Int) := by omega
      have Hmr := Lib.hid hmr
      have Hsr := Lib.hid hsr
      clear hva hcell hmr hsr Hx
      go_upto_region 7 with (go_at_call 24; refine (hvx _ (hb1.next hb4)).mono ?_; rintro e w5 ⟨rfl, m5, rfl⟩)
      have hown5 := own_later hown (below_drewN (n := m5) (Below.refl _ _))
      have hb5 : Keeps w1 (w3.drewN m5) := below_drewN hb4
      generalize w3.drewN m5 = w5 at *
      clear hown hb4 hvx hc4 hq hp hp1 hkI hkI2
      have hmono : ∀ (R : List Int), (∀ x, x ∈ R ↔ x ∈ r ∨ x = VX) → ∀ x, x ∈ R ↔ x ∈ (xs.take (k + 1)).map f := fun R h x => by rw [Htk.out, List.mem_append, List.mem_singleton, h x, Hmr.out x]
      have Hmono := Lib.hid hmono
      have hsz5 := hb1.size
      have hsz6 := hb5.size
      clear hmono
      rcases hown5.2 with ⟨rfl, h0⟩ | ⟨g, cap, cur, rfl, hg, hat, hcap, hmax, -, htk⟩
      · obtain rfl := List.eq_nil_of_length_eq_zero h0
        go_wp2_with fail
        go_loopw [9] (fun i wr => i = .int .i64 0 ∧ Keeps w5 wr) (fun _ _ => 0)
        case atStart => exact ⟨rfl, Below.refl _ _⟩
        case round =>
          obtain ⟨rfl, hb6⟩ := hrel
          have hown6 := own_later hown5 hb6
          have hk6 := hb5.next hb6
          generalize wr = w6 at *
          have hs6 := hk6.size
          clear hown5 hb5 hb6
          go_upto_region 13 with (refine wpList_append_any0 rfl (.tmp 52) (.tmp 55) 22 rfl 3 i0 Try.underlying22 hi _ (.inl rfl) rfl _ _ rfl ?_)
          go_upto_region 14 with (at_builtin; refine wpList_append_own_at _ rfl (.tmp 57) (.tmp 59) 22 rfl w.heap.size 3 i0 _ 1 8 Try.underlying22 hi hz0 hz1 hz2 rfl (by decide) _ 0 [] rfl (own_later hown6 (Keeps.alloc (Below.refl _ _) _)) _ 1 1 [.int .i64 VX] rfl rfl (new_cells _ _ _ _ rfl) (by simp [Value.oneCell']) (by unfold maxLen; omega) (by omega) (by simp; omega) ?_; intro v9 w9 hown9 hgrow9 _ hl9)
          have k9 : Keeps w1 w9 := (Keeps.alloc hk6 _).grown hgrow9 (by simp; omega) (fun r hr => by cases hr)
          obtain ⟨g9, cap9, rfl, _, _, hc9, _⟩ := own_form hown9 (by omega)
          go_wp2_with (refine wpList_append_any0 rfl (.tmp 61) (.tmp 64) 22 rfl 3 i0 Try.underlying22 hi _ (.inr ⟨_, _, _, rfl, hc9⟩) rfl _ _ rfl ?_)
          go_roundw
          case rel => exact ⟨k + 1, [VX], by omega, by go_num, by simp, by simp, Hmono.out _ (fun x => by simp), hown9, k9⟩
          case measure => simp [intOf]; omega
      · have hcell5 : ∀ j, j < r.length → w5.cell? ⟨g, j, none⟩ = some (.int .i64 (nth r j)) := fun j hj => by
          rw [cell_of_row w5 g j cur 3 (0, 0) hat]
          have : (cur.toList.take (r.length * 1))[j]? = some (.int .i64 (nth r j)) := by rw [htk]; simp [nth, hj]
          rw [List.getElem?_take, if_pos (by omega)] at this
          simpa using this
        have Hc5 := Lib.hid hcell5
        have Hln := Lib.hid hrk
        obtain ⟨N, hN⟩ : ∃ N, r.length = N := ⟨_, rfl⟩
        rw [hN] at hown5 hcap hrk Hc5 ⊢
        have HN := Lib.hid hN
        clear hN htk hat hmax hcell5
        go_wp2_with fail
        go_loopw [9] (fun i wr => ∃ j : Nat, j ≤ N ∧ i = .int .i64 j ∧ (∀ m, m < j → nth r m < VX) ∧ Keeps w5 wr) (fun i _ => N - (intOf i).toNat)
        case atStart => exact ⟨0, Nat.zero_le _, rfl, fun m h => by omega, Below.refl _ _⟩
        case round =>
          obtain ⟨j, hj, rfl, hlt, hb6⟩ := hrel
          have Hlt := Lib.hid hlt
          clear hlt
          by_cases hjN : j < N
          · have hc6 := cell_keep (Hc5.out j hjN) hb6
            obtain ⟨D, hD⟩ : ∃ D, nth r j = D := ⟨_, rfl⟩
            rw [hD] at hc6
            have HD := Lib.hid hD
            have hjI : (j : Int) < (N : Int) := by omega
            clear hD
            rcases Int.lt_trichotomy D VX with h1 | h1 | h1
            · go_wp2_with fail
              go_roundw
              case rel =>
                refine ⟨j + 1, by omega, by go_num, fun m hm => ?_, hb6⟩
                by_cases e : m = j
                · subst e; rw [HD.out]; exact h1
                · exact Hlt.out m (by omega)
              case measure => simp [intOf]; omega
            · subst h1
              have hown6 := own_later hown5 hb6
              have hmem : Hid (D ∈ r) := Lib.hid (by rw [← HD.out]; exact nth_mem r j (by rw [HN.out]; exact hjN))
              go_wp2_with fail
              go_roundw
              case rel => exact ⟨k + 1, r, by omega, by go_num, by have := Hln.out; omega, Hsr.out, Hmono.out _ (fun x => ⟨fun h => .inl h, fun h => h.elim id (fun e => e ▸ hmem.out)⟩), by rw [HN.out]; exact hown6, hb5.next hb6⟩
              case measure => simp [intOf]; omega
            · have hne : ¬ D < VX := by omega
              have hne2 : ¬ D = VX := by omega
              have Hi := Lib.hid (ins_sorted r VX j (by rw [HN.out]; exact hj) Hsr.out Hlt.out (fun _ => by rw [HD.out]; exact h1))
              have hk6 := hb5.next hb6
              have hc6 : ∀ m, m < N → wr.cell? ⟨g, m, none⟩ = some (.int .i64 (nth r m)) := fun m hm => cell_keep (Hc5.out m hm) hb6
              generalize wr = w6 at *
              have hs6 := hk6.size
              have Hc6 := Lib.hid hc6
              have hgl : w.heap.size ≤ w6.heap.size := by omega
              clear hc6 hown5 hb5 hb6
              have hjN' : (j : Int) ≤ (N : Int) := by omega
              go_upto_region 13 with (refine wpList_append_rdI rfl (.tmp 52) (.tmp 55) rfl w6.heap.size 0 _ [] rfl (World.ownsRow_nil _ _ _ _) (Nat.le_refl _) (some ⟨g, 0, none⟩) j _ (r.take j) rfl (by rw [List.length_take, HN.out]; omega) (fun m hm => ⟨g, 0, rfl, by rw [Nat.zero_add, Hc6.out m (by omega)]; simp [nth, hm]⟩) (by omega) ?_; intro v7 w7 hown7 hgrow7)
              have k7 : Keeps w6 w7 := (Below.refl _ w6).grown hgrow7 (Nat.le_refl _) (fun r hr => by cases hr)
              rw [Nat.zero_add, List.nil_append] at hown7
              have hb7 := own_base hown7
              have hs7 := k7.size
              go_upto_region 14 with (at_builtin; refine wpList_append_own_at _ rfl (.tmp 57) (.tmp 59) 22 rfl w6.heap.size 3 i0 _ 1 8 Try.underlying22 hi hz0 hz1 hz2 rfl (by decide) _ j _ rfl (own_later hown7 (Keeps.alloc (Below.refl _ _) _)) _ 1 1 [.int .i64 VX] rfl rfl (new_cells _ _ _ _ rfl) (by simp [Value.oneCell']) (by unfold maxLen; omega) (by omega) (by simp; omega) ?_; intro v8 w8 hown8 hgrow8 _ hl8)
              have k8 : Keeps w6 w8 := (Keeps.alloc k7 _).grown hgrow8 (by simp; omega) (fun r hr => hb7 r hr)
              have hb8 := own_base hown8
              have hs8 := k8.size
              have k8' : (w7.alloc (.cells #[.int .i64 VX] 3)).grownBy w8 v7.ownBlock := hgrow8
              obtain ⟨g8, cap8, rfl, hg8, _, hcp8, _, _⟩ := own_form hown8 (by omega)
              go_wp2_with (refine wpList_append_rdI rfl (.tmp 61) (.tmp 64) rfl w6.heap.size (j + 1) _ _ rfl hown8 hs8 _ (N - j) _ (r.drop j) rfl (by rw [List.length_drop, HN.out]) (fun m hm => ⟨g, j, rfl, by rw [cell_keep (Hc6.out (j + m) (by omega)) k8]; simp [nth]⟩) (by omega) ?_; intro v9 w9 hown9 hgrow9)
              have k9 : Keeps w6 w9 := k8.grown hgrow9 hs8 (fun r hr => hb8 r hr)
              have hown9' := own_low2 hown9 hgl
              go_roundw
              case rel => exact ⟨k + 1, r.take j ++ [VX] ++ r.drop j, by omega, by go_num, by rw [Hi.out.2.1]; have := Hln.out; omega, Hi.out.1, Hmono.out _ Hi.out.2.2, by rw [Hi.out.2.1, HN.out, List.map_append, List.map_append]; rw [show j + 1 + (N - j) = N + 1 by omega] at hown9'; exact hown9', hk6.next k9⟩
              case measure => simp [intOf]; omega
          · obtain rfl : j = N := by omega
            have Hi := Lib.hid (ins_sorted r VX j (by rw [HN.out]; exact hj) Hsr.out Hlt.out (fun h => by rw [HN.out] at h; omega))
            have hk6 := hb5.next hb6
            have hc6 : ∀ m, m < j → wr.cell? ⟨g, m, none⟩ = some (.int .i64 (nth r m)) := fun m hm => cell_keep (Hc5.out m hm) hb6
            generalize wr = w6 at *
            have hs6 := hk6.size
            have Hc6 := Lib.hid hc6
            have hgl : w.heap.size ≤ w6.heap.size := by omega
            clear hc6 hown5 hb5 hb6
            have hjN' : (j : Int) ≤ (j : Int) := by omega
            go_upto_region 13 with (refine wpList_append_rdI rfl (.tmp 52) (.tmp 55) rfl w6.heap.size 0 _ [] rfl (World.ownsRow_nil _ _ _ _) (Nat.le_refl _) (some ⟨g, 0, none⟩) j _ (r.take j) rfl (by rw [List.length_take, HN.out]; omega) (fun m hm => ⟨g, 0, rfl, by rw [Nat.zero_add, Hc6.out m (by omega)]; simp [nth, hm]⟩) (by omega) ?_; intro v7 w7 hown7 hgrow7)
            have k7 : Keeps w6 w7 := (Below.refl _ w6).grown hgrow7 (Nat.le_refl _) (fun r hr => by cases hr)
            rw [Nat.zero_add, List.nil_append] at hown7
            have hb7 := own_base hown7
            have hs7 := k7.size
            go_upto_region 14 with (at_builtin; refine wpList_append_own_at _ rfl (.tmp 57) (.tmp 59) 22 rfl w6.heap.size 3 i0 _ 1 8 Try.underlying22 hi hz0 hz1 hz2 rfl (by decide) _ j _ rfl (own_later hown7 (Keeps.alloc (Below.refl _ _) _)) _ 1 1 [.int .i64 VX] rfl rfl (new_cells _ _ _ _ rfl) (by simp [Value.oneCell']) (by unfold maxLen; omega) (by omega) (by simp; omega) ?_; intro v8 w8 hown8 hgrow8 _ hl8)
            have k8 : Keeps w6 w8 := (Keeps.alloc k7 _).grown hgrow8 (by simp; omega) (fun r hr => hb7 r hr)
            have hb8 := own_base hown8
            have hs8 := k8.size
            have k8' : (w7.alloc (.cells #[.int .i64 VX] 3)).grownBy w8 v7.ownBlock := hgrow8
            obtain ⟨g8, cap8, rfl, hg8, _, hcp8, _, _⟩ := own_form hown8 (by omega)
            go_wp2_with (refine wpList_append_rdI rfl (.tmp 61) (.tmp 64) rfl w6.heap.size (j + 1) _ _ rfl hown8 hs8 _ 0 _ (r.drop j) rfl (by rw [List.length_drop, HN.out]; omega) (fun m hm => absurd hm (by omega)) (by omega) ?_; intro v9 w9 hown9 hgrow9)
            have k9 : Keeps w6 w9 := k8.grown hgrow9 hs8 (fun r hr => hb8 r hr)
            have hown9' := own_low2 hown9 hgl
            go_roundw
            case rel => exact ⟨k + 1, r.take j ++ [VX] ++ r.drop j, by omega, by go_num, by rw [Hi.out.2.1]; have := Hln.out; omega, Hi.out.1, Hmono.out _ Hi.out.2.2, by rw [Hi.out.2.1, HN.out, List.map_append, List.map_append]; exact hown9', hk6.next k9⟩
            case measure => simp [intOf]; omega
    · obtain rfl : k = M := by omega
      have hrd := own_ints (l := r) hown (by unfold maxLen; omega)
      rw [List.take_of_length_le (by rw [Hpl.out]; omega)] at hmr
      go_wp2_with fail
      go_ret
      exact ⟨_, r, rfl, hrd.rd, hsr, hmr, hb1.next hb4⟩
end Go.Proofs.Ytngonghgkeobhaa
