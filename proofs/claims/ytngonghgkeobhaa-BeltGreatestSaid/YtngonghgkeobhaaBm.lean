/- Gains; the first positive gain; Climb. -/
import Derived.Test.YtngonghgkeobhaaBl
import Derived.Test.YtngonghgkeobhaaBi
namespace Go.Proofs.Ytngonghgkeobhaa
open Go.RowKit Go.Shelf
set_option linter.unusedVariables false
set_option linter.unusedSimpArgs false

theorem infoI : (Try.prog.info? 3).map (fun i => (i.zero, i.size, i.bytes)) = some (some (.int .i64 0), 1, 8) := by kernel_rfl
set_option maxHeartbeats 1000000 in
set_option maxRecDepth 100000 in
/-- What slices.Clone makes is a new block. -/
theorem clone_c (b0 o0 c0 : Nat) (L : List Int) (h1 : 1 ≤ L.length) (h2 : L.length ≤ 1000) (w : World) (hv : RdI w (.slice (some ⟨b0, o0, none⟩) L.length c0) L) :
    Calls Try.prog 39 #[.slice (some ⟨b0, o0, none⟩) L.length c0] w fun e w' => ∃ b c, e = .returned (.slice (some ⟨b, 0, none⟩) L.length c) ∧ L.length ≤ c ∧ c ≤ maxLen ∧ w.heap.size ≤ b ∧ RdI w' (.slice (some ⟨b, 0, none⟩) L.length c) L ∧ Keeps w w' := by
  obtain ⟨_, _, hA, hm, hcs⟩ := id hv
  cases hA
  obtain ⟨i0, hi, hz0, hz1, hz2⟩ := info_parts infoI
  have Hown : Hid ((w.alloc (.cells #[] 3)).ownsRow w.heap.size 3 1 (.slice (some ⟨w.heap.size, 0, none⟩) 0 0) 0 []) :=
    Lib.hid ⟨rfl, .inr ⟨w.heap.size, 0, #[], rfl, Nat.le_refl _, At.new w 3 #[], Nat.le_refl _, Nat.zero_le _, rfl, rfl⟩⟩
  have Hcell : Hid (∀ j u, (L.map (Value.int .i64))[j]? = some u → (w.alloc (.cells #[] 3)).cell? ((⟨b0, o0, none⟩ : Addr).add j) = some u) := Lib.hid (by
    intro j u hu
    have hj := (List.getElem?_eq_some_iff.1 hu).1
    rw [List.length_map] at hj
    obtain ⟨b', o', x, e1, e2, rfl⟩ := hcs j hj
    cases e1
    rw [show ((⟨b0, o0, none⟩ : Addr).add j) = ⟨b0, o0 + j, none⟩ from by unfold Addr.add; split <;> simp_all, cell_keep e2 (Keeps.alloc (Below.refl _ _) _), ← hu]
    simp [nth, hj])
  have Hlen : Hid ((L.map (Value.int .i64)).length = L.length * 1) := Lib.hid (by simp)
  have hnil : ∀ W, (binOp .eql 22 (.slice (some ⟨b0, o0, none⟩) L.length c0) (.slice none 0 0)).run Try.prog W = .ok (.bool false) W := fun W => by kernel_rfl
  clear hcs hm hv
  go_enter Try.func39, Try.ntmps39
  go_wp2_with (at_builtin; refine wpList_append_own _ rfl _ _ 22 rfl w.heap.size 3 i0 _ 1 8 Try.underlying22 hi hz0 hz1 hz2 rfl (by decide) _ 0 [] rfl Hown.out ⟨b0, o0, none⟩ L.length c0 (L.map (Value.int .i64)) rfl Hlen.out Hcell.out (fun u hu => by obtain ⟨x, _, rfl⟩ := List.mem_map.1 hu; rfl) (by unfold maxLen; omega) (by omega) (by simp) ?_; intro v' w4 hown4 hgrow4 _)
  go_ret
  obtain ⟨g, cap, rfl, hb, hlt, h3, h4, hc⟩ := own_form hown4 (by omega)
  rw [Nat.zero_add] at h3
  refine ⟨g, cap, by simp, h3, h4, hb, ⟨_, cap, rfl, by unfold maxLen; omega, fun j hj => ⟨g, 0, _, rfl, by rw [Nat.zero_add]; exact hc j _ (by simp [nth, List.getElem?_eq_getElem hj]), rfl⟩⟩, ?_⟩
  exact (Keeps.alloc (Below.refl _ _) _).grown hgrow4 (by simp) (fun r hr => own_base Hown.out r hr)
theorem nth_ext' (l l' : List Int) (h : l.length = l'.length) (hn : ∀ k, k < l.length → nth l k = nth l' k) : l = l' := by
  apply List.ext_getElem h
  intro k h1 h2
  have := hn k h1
  simpa [nth, List.getElem?_eq_getElem h1, List.getElem?_eq_getElem h2] using this

set_option maxHeartbeats 1000000 in
theorem ints_c (v v' : Value) (a b : List Int) (w : World) (ha : RdI w v a) (hb : RdI w v' b) :
    Calls Try.prog 17 #[v, v'] w fun e w' => e = .returned (.bool (decide (a = b))) ∧ ∃ m, w' = w.drewN m := by
  obtain ⟨A, c, rfl, hm, hcs⟩ := id ha
  obtain ⟨A', c', rfl, hm', hcs'⟩ := id hb
  unfold maxLen at hm hm'
  by_cases hl : a.length = b.length
  · have hne : ((a.length : Int) != (b.length : Int)) = false := by simp [hl]
    have Hl := Lib.hid hl
    clear hl
    go_enter Try.func17, Try.ntmps17
    go_wp2_with fail
    go_loopw [5] (fun i wr => ∃ k : Nat, k ≤ a.length ∧ i = .int .i64 k ∧ (∀ j, j < k → nth a j = nth b j) ∧ ∃ m, wr = w.drewN m) (fun i _ => a.length - (intOf i).toNat)
    case atStart => exact ⟨0, Nat.zero_le _, rfl, fun j hj => by omega, 0, rfl⟩
    case round =>
      obtain ⟨k, hk, rfl, hall, m, rfl⟩ := hrel
      by_cases hlt : k < a.length
      · obtain ⟨b0, off, u, rfl, hcell, rfl⟩ := hcs k hlt
        obtain ⟨b1, off1, u1, rfl, hcell1, rfl⟩ := hcs' k (by rw [← Hl.out]; exact hlt)
        have hlt' : k < b.length := by rw [← Hl.out]; exact hlt
        clear hcs hcs' ha hb
        have Hall := Lib.hid hall
        clear hall
        by_cases hx : nth a k = nth b k
        · have hxn : (nth a k != nth b k) = false := by simp [hx]
          have Hx := Lib.hid hx
          clear hx
          go_wp2_with fail
          go_quiet (fail)
          go_wp2_with fail
          go_roundw
          case rel => exact ⟨k + 1, by omega, by go_num, fun j hj => (by
            by_cases h : j < k
            · exact Hall.out j h
            · rw [show j = k by omega]; exact Hx.out), m + nq, rfl⟩
          case measure => simp [intOf]; omega
        · have hxn : (nth a k != nth b k) = true := by simpa using hx
          have Hx := Lib.hid hx
          clear hx
          go_wp2_with fail
          go_quiet (fail)
          go_wp2_with fail
          go_ret
          exact ⟨ret_bool (by symm; rw [decide_eq_false_iff_not]; intro e; exact Hx.out (by rw [e])), m + nq, World.drewN_drewN _ _ _⟩
      · have hkl : k = a.length := by omega
        have Hk := Lib.hid hkl
        have Hall := Lib.hid hall
        clear hkl hall
        go_wp2_with fail
        go_ret
        exact ⟨ret_bool (by symm; rw [decide_eq_true_iff]; exact nth_ext' a b Hl.out (fun j hj => Hall.out j (by rw [Hk.out]; exact hj))), m, rfl⟩
  · have hne : ((a.length : Int) != (b.length : Int)) = true := by simp; omega
    have Hl := Lib.hid hl
    clear hl
    go_enter Try.func17, Try.ntmps17
    go_wp2_with fail
    go_ret
    exact ⟨ret_bool (by symm; rw [decide_eq_false_iff_not]; intro e; exact Hl.out (by rw [e])), 0, rfl⟩

theorem nth_take (l : List Int) (k j : Nat) (h : j < k) : nth (l.take k) j = nth l j := by simp [nth, h]
theorem RdI_at {X : World} {b : Nat} {t : TypeId} {lst : List Int} {m c : Nat} (h : At X b t (ic lst)) (hm : m ≤ lst.length) (hl : lst.length ≤ 1000) : RdI X (.slice (some ⟨b, 0, none⟩) m c) (lst.take m) := by
  have hlt : (lst.take m).length = m := by simp; omega
  refine ⟨some ⟨b, 0, none⟩, c, by rw [hlt], by rw [hlt]; unfold maxLen; omega, fun k hk => ?_⟩
  rw [hlt] at hk
  exact ⟨b, 0, _, rfl, by rw [Nat.zero_add]; exact h.int k (by omega), by show _ = Value.int .i64 _; rw [nth_take _ _ _ hk]⟩
theorem gn_len (s : Nat) (l : List Ed) (hl : edgesOk l) : (gnL s l).length = 12 := by
  have := (gnL_ok s l hl l.length (Nat.le_refl _)).1
  rwa [List.take_length] at this
set_option maxHeartbeats 1000000 in
theorem Gains_no (n : Int) (v : Value) (l : List Ed) (s : ByteArray) (h : (graphB n l && sideB n s) = false) (w : World) (hv : RdE w v l) :
    Calls Try.prog 15 #[.int .i64 n, v, .string s] w fun e w' => e = .returned (.tuple #[.slice none 0 0, .int .i64 2]) ∧ Keeps w w' := by
  cases hg : graphB n l
  · have c1 := withSide_noG n v l s hg w hv
    clear hv hg h
    go_enter Try.func15, Try.ntmps15
    go_wp2_with (go_at_call 31; refine c1.mono ?_; rintro e w1 ⟨rfl, b1⟩)
    go_ret2
    exact ⟨rfl, b1⟩
  · rw [hg, Bool.true_and] at h
    have c1 := withSide_noS n v l s hg h w hv
    clear hv hg h
    go_enter Try.func15, Try.ntmps15
    go_wp2_with (go_at_call 31; refine c1.mono ?_; rintro e w1 ⟨B, rfl, b1⟩)
    go_ret2
    exact ⟨rfl, b1⟩
set_option maxHeartbeats 2000000 in
set_option maxRecDepth 100000 in
theorem Gains_yes (d : Nat) (v : Value) (l : List Ed) (s : ByteArray) (hg : graphB d l = true) (hs : sideB d s = true) (w : World) (hv : RdE w v l) :
    Calls Try.prog 15 #[.int .i64 d, v, .string s] w fun e w' => ∃ b c, e = .returned (.tuple #[.slice (some ⟨b, 0, none⟩) d c, .int .i64 0]) ∧ RdI w' (.slice (some ⟨b, 0, none⟩) d c) ((gnL (rdS s.data.toList s.size) l).take d) ∧ Keeps w w' := by
  have c1 := withSide_yes d v l s hg hs w hv
  have hE := graphB_edges hg
  have hn := graphB_n hg
  have hd1 : 1 ≤ d := by omega
  have hd2 : d ≤ 12 := by omega
  have hr := rdS_lt s.data.toList s.size
  have c2 := fun B z q => gains_c B (rdS s.data.toList s.size) v l hE hr z q
  have hgl := gn_len (rdS s.data.toList s.size) l hE
  clear hg hs hn
  have HV := Lib.hid hv
  clear hv
  generalize rdS s.data.toList s.size = S at *
  obtain ⟨R, hR⟩ : ∃ R, R = gnL S l := ⟨_, rfl⟩
  rw [← hR] at hgl ⊢
  simp only [← hR] at c2
  clear hR
  have htl : (R.take d).length = d := by rw [List.length_take]; omega
  have hcl := fun b z q => clone_c b 0 12 (R.take d) (by omega) (by omega) z q
  rw [htl] at hcl
  have Hgl := Lib.hid hgl
  have Htl := Lib.hid htl
  have q1 : (1 : Int) ≤ d := by omega
  have q2 : (d : Int) ≤ 12 := by omega
  clear hgl htl
  go_enter Try.func15, Try.ntmps15
  go_wp2_with (first
    | (go_at_call 31; refine c1.mono ?_; rintro e w1 ⟨B, rfl, hB, a1, b1⟩; have qq1 := gc_edges a1; clear c1 a1)
    | (go_at_call 38; refine (c2 _ _ qq1 (HV.out.below b1)).mono ?_; rintro e w2 ⟨rfl, b2⟩; have k2 := Keeps.next b1 b2)
    | (refine wpList_store_row rfl 74 _ _ rfl w2.heap.size (ic R) rfl rfl 74 (ic (List.replicate 12 0)) (At.new w2 _ _) (sizeG _ Hgl.out) (by rw [ic_size, ic_size, Hgl.out]; rfl) (ic_one _) ?_
       have h2 : At ((w2.alloc (.cells (ic (List.replicate 12 0)) 74)).setRow w2.heap.size (ic R)) w2.heap.size 74 (ic R) := (At.new w2 _ _).row _
       have hk2 : Keeps w ((w2.alloc (.cells (ic (List.replicate 12 0)) 74)).setRow w2.heap.size (ic R)) := below_row (Keeps.alloc k2 _) k2.size _
       change wpList _ _ _ _ _ ((w2.alloc (.cells (ic (List.replicate 12 0)) 74)).setRow w2.heap.size (ic R))
       generalize (w2.alloc (.cells (ic (List.replicate 12 0)) 74)).setRow w2.heap.size (ic R) = Y at *
       generalize w2.heap.size = gp at *)
    | (go_at_call 39; refine (hcl _ _ (RdI_at h2 (by rw [Hgl.out]; exact hd2) (by rw [Hgl.out]; omega))).mono ?_; rintro e w3 ⟨b3, c3, rfl, _, _, _, hrd3, hb3⟩))
  go_ret2
  exact ⟨b3, c3, rfl, hrd3, hk2.next hb3⟩
/-- The first vertex with a positive gain, or -1. -/
def fposK (r : List Int) : Nat → Int
  | 0 => -1
  | k + 1 => if 0 < nth r (r.length - 1 - k) then (r.length - 1 - k : Nat) else fposK r k
def fpos (r : List Int) : Int := fposK r r.length
theorem fpos_at (r : List Int) (k : Nat) (hk : k < r.length) (hj : ∀ j, j < k → nth r j ≤ 0) (h : 0 < nth r k) : fpos r = k := by
  have key : ∀ m, m ≤ r.length → r.length - m ≤ k → k < r.length → fposK r m = k := by
    intro m
    induction m with
    | zero => intro h1 h2 h3; omega
    | succ m ih =>
      intro h1 h2 h3
      unfold fposK
      by_cases e : r.length - 1 - m = k
      · rw [e, if_pos h]
      · rw [if_neg (by have := hj (r.length - 1 - m) (by omega); omega)]
        exact ih (by omega) (by omega) h3
  exact key r.length (Nat.le_refl _) (by omega) hk
theorem fpos_none (r : List Int) (hj : ∀ j, j < r.length → nth r j ≤ 0) : fpos r = -1 := by
  have key : ∀ m, m ≤ r.length → fposK r m = -1 := by
    intro m
    induction m with
    | zero => intro _; rfl
    | succ m ih =>
      intro h1
      unfold fposK
      rw [if_neg (by have := hj (r.length - 1 - m) (by omega); omega)]
      exact ih (by omega)
  exact key _ (Nat.le_refl _)
theorem fpos_cases (r : List Int) : (fpos r = -1 ∧ ∀ j, j < r.length → nth r j ≤ 0) ∨ ∃ k : Nat, k < r.length ∧ fpos r = k ∧ 0 < nth r k ∧ ∀ j, j < k → nth r j ≤ 0 := by
  by_cases h : ∃ k, k < r.length ∧ 0 < nth r k
  · have hw : ∃ k, k < r.length ∧ 0 < nth r k ∧ ∀ j, j < k → nth r j ≤ 0 := by
      have key : ∀ m, (∃ k, k < m ∧ k < r.length ∧ 0 < nth r k) → ∃ k, k < r.length ∧ 0 < nth r k ∧ ∀ j, j < k → nth r j ≤ 0 := by
        intro m
        induction m with
        | zero => rintro ⟨k, h0, _⟩; omega
        | succ m ih =>
          rintro ⟨k, h0, h1, h2⟩
          by_cases e : ∃ k', k' < m ∧ k' < r.length ∧ 0 < nth r k'
          · exact ih e
          · obtain rfl : k = m := by
              rcases Nat.lt_or_ge k m with h3 | h3
              · exact absurd ⟨k, h3, h1, h2⟩ e
              · omega
            refine ⟨k, h1, h2, fun j hj => ?_⟩
            rcases Int.lt_or_le 0 (nth r j) with h3 | h3
            · exact absurd ⟨j, hj, by omega, h3⟩ e
            · exact h3
      obtain ⟨k, h1, h2⟩ := h
      exact key r.length ⟨k, h1, h1, h2⟩
    obtain ⟨k, h1, h2, h3⟩ := hw
    exact .inr ⟨k, h1, fpos_at r k h1 h3 h2, h2, h3⟩
  · have hj : ∀ j, j < r.length → nth r j ≤ 0 := fun j hj => by
      rcases Int.lt_or_le 0 (nth r j) with h3 | h3
      · exact absurd ⟨j, hj, h3⟩ h
      · exact h3
    exact .inl ⟨fpos_none r hj, hj⟩
set_option maxHeartbeats 400000 in
theorem pos_c (x : Int) (w : World) : Calls Try.prog 57 #[.int .i64 x] w fun e w' => e = .returned (.bool (decide (0 < x))) ∧ w = w' := by
  go_enter Try.func57, Try.ntmps57
  go_wp2_with fail
  go_ret
  exact ⟨rfl, rfl⟩
set_option maxHeartbeats 2000000 in
set_option maxRecDepth 100000 in
theorem indexFunc_c (A : Option Addr) (c n : Nat) (r : List Int) (hn : r.length = n) (w : World) (hv : RdI w (.slice A n c) r) :
    Calls Try.prog 56 #[.slice A n c, .func (.func 57) #[] #[]] w fun e w' => e = .returned (.int .i64 (fpos r)) ∧ w = w' := by
  subst hn
  obtain ⟨_, _, he, hm, hcs⟩ := id hv
  cases he
  unfold maxLen at hm
  go_enter Try.func56, Try.ntmps56
  go_wp2_with fail
  go_loopw [8] (fun i wr => ∃ k : Nat, k ≤ r.length ∧ i = .int .i64 k ∧ (∀ j, j < k → nth r j ≤ 0) ∧ wr = w) (fun i _ => r.length - (intOf i).toNat)
  case atStart => exact ⟨0, Nat.zero_le _, rfl, fun j h => by omega, rfl⟩
  case round =>
    obtain ⟨k, hk, rfl, hj, rfl⟩ := hrel
    have Hj := Lib.hid hj
    clear hj
    by_cases hlt : k < r.length
    · obtain ⟨b, off, _, rfl, hc, rfl⟩ := hcs k hlt
      clear hcs hv
      have hpc := fun z => pos_c (nth r k) z
      by_cases hp : 0 < nth r k
      · have Hf := Lib.hid (fpos_at r k hlt Hj.out hp)
        rw [decide_eq_true hp] at hpc
        clear hp
        go_wp2_with (go_at_call 57; refine (hpc _).mono ?_; rintro e w1 ⟨rfl, rfl⟩)
        go_ret
        exact ⟨by rw [Hf.out]; rfl, rfl⟩
      · rw [decide_eq_false hp] at hpc
        have Hp := Lib.hid hp
        clear hp
        go_wp2_with (go_at_call 57; refine (hpc _).mono ?_; rintro e w1 ⟨rfl, rfl⟩)
        go_roundw
        case rel => exact ⟨k + 1, by omega, by go_num, fun j hj => (by
          by_cases h : j < k
          · exact Hj.out j h
          · obtain rfl : j = k := by omega
            have := Hp.out; omega), by first | trivial | rfl⟩
        case measure => simp [intOf]; omega
    · have Hf := Lib.hid (fpos_none r fun j h => Hj.out j (by omega))
      clear hcs hv
      go_wp2_with fail
      go_ret
      exact ⟨by rw [Hf.out]; rfl, rfl⟩
set_option maxHeartbeats 1000000 in
theorem firstPos_c (r : List Int) (hr : r.length = 12) (w : World) :
    Calls Try.prog 40 #[.agg (ic r)] w fun e w' => e = .returned (.int .i64 (fpos r)) ∧ Keeps w w' := by
  have z : At (w.alloc (.cells (ic r) 74)) w.heap.size 74 (ic r) := At.new _ _ _
  have hk : Keeps w (w.alloc (.cells (ic r) 74)) := Keeps.alloc (Below.refl _ _) _
  have hrd : RdI (w.alloc (.cells (ic r) 74)) (.slice (some ⟨w.heap.size, 0, none⟩) 12 12) r := by
    have := RdI_at (m := 12) (c := 12) z (by omega) (by omega)
    rwa [List.take_of_length_le (by omega)] at this
  have hix := indexFunc_c (some ⟨w.heap.size, 0, none⟩) 12 12 r hr _ hrd
  obtain ⟨cs, hcs⟩ : ∃ cs, cs = ic r := ⟨_, rfl⟩
  rw [← hcs] at hix hk ⊢
  clear z hrd hcs hr
  go_enter Try.func40, Try.ntmps40
  go_wp2_with (go_at_call 56; refine hix.mono ?_; rintro e w1 ⟨rfl, rfl⟩)
  go_ret
  exact ⟨rfl, hk⟩
end Go.Proofs.Ytngonghgkeobhaa
