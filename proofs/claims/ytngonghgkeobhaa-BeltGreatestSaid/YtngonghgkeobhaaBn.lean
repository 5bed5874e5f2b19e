/- Flips and values; Climb. -/
import Derived.Test.YtngonghgkeobhaaBm
namespace Go.Proofs.Ytngonghgkeobhaa
open Go.RowKit Go.Shelf
set_option linter.unusedVariables false
set_option linter.unusedSimpArgs false

theorem hs_flp (s v u : Nat) (hv : v < 12) (hu : u < 12) : hs (flp s v) u = if u = v then !hs s u else hs s u := by
  unfold hs flp bt
  rw [Nat.testBit_xor, Nat.testBit_two_pow]
  by_cases e : u = v
  · subst e
    rw [if_pos rfl, decide_eq_true rfl]
    cases s.testBit (11 - u) <;> rfl
  · rw [if_neg e, decide_eq_false (by omega), Bool.xor_false]
/-- Edges of a graph, for what is to be said of flips. -/
def edgesT (l : List Ed) : Prop := ∀ x ∈ l, x.1.toNat < 12 ∧ x.2.1.toNat < 12 ∧ x.1.toNat ≠ x.2.1.toNat
theorem edgesT_of {n : Int} {l : List Ed} (h : graphB n l = true) : edgesT l := by
  have h1 := graphB_n h
  unfold graphB at h
  rw [Bool.and_eq_true, Bool.and_eq_true] at h
  have := goodK_all n l _ h.2.2
  rw [List.take_length] at this
  intro x hx
  have h2 := List.all_eq_true.1 this x hx
  unfold edgeB at h2
  simp only [Bool.and_eq_true, decide_eq_true_eq] at h2
  omega
/-- What an edge adds to the gain of a vertex. -/
def dlv (s v : Nat) (x : Ed) : Int := if x.1.toNat = v ∨ x.2.1.toNat = v then dlt s x else 0
theorem gstep_nth (s v : Nat) (r : List Int) (x : Ed) (hr : r.length = 12) (hx : x.1.toNat < 12 ∧ x.2.1.toNat < 12 ∧ x.1.toNat ≠ x.2.1.toNat) : nth (gstep s r x) v = nth r v + dlv s v x := by
  obtain ⟨h1, h2, h3⟩ := hx
  unfold gstep dlv
  simp only
  by_cases e2 : x.2.1.toNat = v
  · subst e2
    rw [nth_set_same _ _ _ (by rw [List.length_set]; omega), nth_set_ne _ _ _ _ h3, if_pos (.inr rfl)]
  · rw [nth_set_ne _ _ _ _ e2]
    by_cases e1 : x.1.toNat = v
    · subst e1
      rw [nth_set_same _ _ _ (by omega), if_pos (.inl rfl)]
    · rw [nth_set_ne _ _ _ _ e1, if_neg (by omega)]; omega
theorem wgt_flp (s v : Nat) (hv : v < 12) (x : Ed) (hx : x.1.toNat < 12 ∧ x.2.1.toNat < 12 ∧ x.1.toNat ≠ x.2.1.toNat) : wgt (flp s v) x = wgt s x + dlv s v x := by
  obtain ⟨h1, h2, h3⟩ := hx
  have f1 := hs_flp s v _ hv h1
  have f2 := hs_flp s v _ hv h2
  by_cases e1 : x.1.toNat = v
  · have e2 : x.2.1.toNat ≠ v := fun e => h3 (by omega)
    have hd : dlv s v x = dlt s x := by unfold dlv; rw [if_pos (Or.inl e1)]
    rw [if_pos e1] at f1
    rw [if_neg e2] at f2
    rw [hd]
    unfold wgt dlt
    rw [f1, f2]
    cases hs s x.1.toNat <;> cases hs s x.2.1.toNat <;> simp <;> omega
  · rw [if_neg e1] at f1
    by_cases e2 : x.2.1.toNat = v
    · have hd : dlv s v x = dlt s x := by unfold dlv; rw [if_pos (Or.inr e2)]
      rw [if_pos e2] at f2
      rw [hd]
      unfold wgt dlt
      rw [f1, f2]
      cases hs s x.1.toNat <;> cases hs s x.2.1.toNat <;> simp <;> omega
    · have hd : dlv s v x = 0 := by unfold dlv; rw [if_neg (fun h => h.elim e1 e2)]
      rw [if_neg e2] at f2
      rw [hd]
      unfold wgt
      rw [f1, f2]
      omega
theorem gnL_len (s : Nat) : ∀ (l : List Ed), (gnL s l).length = 12 := by
  intro l
  have : ∀ (m : List Ed) (r : List Int), r.length = 12 → (m.foldl (gstep s) r).length = 12 := by
    intro m
    induction m with
    | nil => intro r h; exact h
    | cons x m ih => intro r h; exact ih _ (by rw [gstep_length, h])
  exact this l _ (by simp)
/-- A flip increases the value by the gain. -/
theorem val_flp (s v : Nat) (hv : v < 12) (l : List Ed) (hl : edgesT l) : valL (flp s v) l = valL s l + nth (gnL s l) v := by
  have key : ∀ k, k ≤ l.length → valL (flp s v) (l.take k) = valL s (l.take k) + nth (gnL s (l.take k)) v := by
    intro k
    induction k with
    | zero =>
      intro _
      have : nth (List.replicate 12 (0 : Int)) v = 0 := by unfold nth; rw [List.getElem?_replicate]; split <;> rfl
      show (0 : Int) = 0 + nth (List.replicate 12 (0 : Int)) v
      rw [this]; rfl
    | succ k ih =>
      intro hk
      obtain ⟨x, hx⟩ : ∃ x, l[k]? = some x := ⟨_, List.getElem?_eq_getElem (by omega)⟩
      have hm := hl x (List.mem_of_getElem? hx)
      rw [take_at l k x hx, valL_snoc, valL_snoc, gnL_snoc, gstep_nth s v _ x (gnL_len s _) hm, wgt_flp s v hv x hm, ih (by omega)]
      omega
  have := key l.length (Nat.le_refl _)
  rwa [List.take_length] at this
/-- Climbing: the side at the end and the number of flips. -/
def clm (l : List Ed) : Nat → Nat → Nat → Nat × Nat
  | 0, s, k => (s, k)
  | f + 1, s, k => if 0 ≤ fpos (gnL s l) then clm l f (flp s (fpos (gnL s l)).toNat) (k + 1) else (s, k)
def clmb (l : List Ed) (s : Nat) : Nat × Nat := clm l 10001 s 0
theorem clm_end (l : List Ed) (f s k : Nat) (h : fpos (gnL s l) < 0) : clm l f s k = (s, k) := by
  cases f with
  | zero => rfl
  | succ f => unfold clm; rw [if_neg (by omega)]
theorem fpos_lt (s : Nat) (l : List Ed) : fpos (gnL s l) = -1 ∨ ∃ k : Nat, k < 12 ∧ fpos (gnL s l) = k ∧ 0 < nth (gnL s l) k := by
  rcases fpos_cases (gnL s l) with ⟨h, _⟩ | ⟨k, h1, h2, h3, _⟩
  · exact .inl h
  · rw [gnL_len] at h1
    exact .inr ⟨k, h1, h2, h3⟩
theorem flp_in (s v : Nat) (h : s < 65536) : flp s v < 65536 := flp_lt s v h
theorem val_in (s : Nat) (l : List Ed) (h : edgesOk l) : -5000 ≤ valL s l ∧ valL s l ≤ 5000 := by
  have := valL_in s l h l.length
  rwa [List.take_length] at this
set_option maxHeartbeats 1000000 in
theorem Climb_no (n : Int) (v : Value) (l : List Ed) (s : ByteArray) (h : (graphB n l && sideB n s) = false) (w : World) (hv : RdE w v l) :
    Calls Try.prog 16 #[.int .i64 n, v, .string s] w fun e w' => e = .returned (.tuple #[.string ByteArray.empty, .int .i64 0, .int .i64 2]) ∧ Keeps w w' := by
  cases hg : graphB n l
  · have c1 := withSide_noG n v l s hg w hv
    clear hv hg h
    go_enter Try.func16, Try.ntmps16
    go_wp2_with (go_at_call 31; refine c1.mono ?_; rintro e w1 ⟨rfl, b1⟩)
    go_ret3
    exact ⟨rfl, b1⟩
  · rw [hg, Bool.true_and] at h
    have c1 := withSide_noS n v l s hg h w hv
    clear hv hg h
    go_enter Try.func16, Try.ntmps16
    go_wp2_with (go_at_call 31; refine c1.mono ?_; rintro e w1 ⟨B, rfl, b1⟩)
    go_ret3
    exact ⟨rfl, b1⟩
set_option maxHeartbeats 2000000 in
set_option maxRecDepth 100000 in
theorem Climb_yes (d : Nat) (v : Value) (l : List Ed) (s : ByteArray) (hg : graphB d l = true) (hs : sideB d s = true) (w : World) (hv : RdE w v l) :
    Calls Try.prog 16 #[.int .i64 d, v, .string s] w fun e w' => e = .returned (.tuple #[.string ⟨(txt (clmb l (rdS s.data.toList s.size)).1 d).toArray⟩, .int .i64 (clmb l (rdS s.data.toList s.size)).2, .int .i64 0]) ∧ Keeps w w' := by
  have c1 := withSide_yes d v l s hg hs w hv
  have hE := graphB_edges hg
  have hT := edgesT_of hg
  have hn := graphB_n hg
  have hd2 : d ≤ 12 := by omega
  have hr := rdS_lt s.data.toList s.size
  clear hg hs hn
  have HV := Lib.hid hv
  clear hv
  generalize rdS s.data.toList s.size = S at *
  obtain ⟨C, hC⟩ : ∃ C, C = clmb l S := ⟨_, rfl⟩
  rw [← hC]
  have HC := Lib.hid hC
  clear hC
  go_enter Try.func16, Try.ntmps16
  go_upto_region 4 with (go_at_call 31; refine c1.mono ?_; rintro e w1 ⟨B, rfl, hB, a1, b1⟩; have qq1 := gc_edges a1; clear c1 a1)
  have hgn : Hid (∀ (x : Nat) (z : World), x < 65536 → Keeps w1 z → Calls Try.prog 38 #[.pointer (some ⟨B, 0, none⟩), .int .u16 x] z fun e w' => e = .returned (.agg (ic (gnL x l))) ∧ Keeps z w') := Lib.hid fun x z hx hz => gains_c B x v l hE hx z (cell_keep qq1 hz) (HV.out.below (b1.next hz))
  have hfp : ∀ (x : Nat) (z : World), Calls Try.prog 40 #[.agg (ic (gnL x l))] z fun e w' => e = .returned (.int .i64 (fpos (gnL x l))) ∧ Keeps z w' := fun x z => firstPos_c _ (gnL_len x l) z
  have Hfp := Lib.hid hfp
  clear hfp qq1
  go_upto_region 6 with (first
    | (go_at_call 38; with_reducible refine (hgn.out S _ hr (Below.refl _ _)).mono ?_; rintro e w2 ⟨rfl, b2⟩)
    | (go_at_call 40; with_reducible refine (Hfp.out S _).mono ?_; rintro e w3 ⟨rfl, b3⟩))
  go_loopw [10, 12, 13] (fun x q u wr => ∃ (S' k f : Nat), S' < 65536 ∧ x = .int .u16 S' ∧ q = .int .i64 k ∧ u = .int .i64 (fpos (gnL S' l)) ∧ clm l f S' k = C ∧ 5000 - valL S' l < f ∧ k + f ≤ 10001 ∧ Keeps w1 wr) (fun _ q _ _ => 10001 - (intOf q).toNat)
  case atStart => exact ⟨S, 0, 10001, hr, rfl, rfl, rfl, HC.out.symm, by have := (val_in S l hE).1; omega, by omega, b2.next b3⟩
  case round =>
    obtain ⟨S', k, f, hS, rfl, rfl, rfl, hcl, hvf, hkf, hb⟩ := hrel
    have hvi := val_in S' l hE
    rcases fpos_lt S' l with hp | ⟨p, hp12, hp, hpp⟩
    · have hend := clm_end l f S' k (by omega)
      rw [hcl] at hend
      have Hend := Lib.hid hend
      have ht := fun z => text_c S' d hd2 hS z
      rw [hp]
      clear hp hcl hvf hvi
      go_wp2_with (go_at_call 36; refine (ht _).mono ?_; rintro e w4 ⟨rfl, b4⟩)
      go_ret3
      exact ⟨by rw [Hend.out]; rfl, (b1.next hb).next b4⟩
    · have hval := val_flp S' p hp12 l hT
      have hfl := flp_in S' p hS
      have hfc := fun z => flipped_c S' p hp12 hS z
      obtain ⟨f', rfl⟩ : ∃ f', f = f' + 1 := ⟨f - 1, by omega⟩
      have hcn : clm l f' (flp S' p) (k + 1) = C := by
        rw [← hcl]
        show _ = if 0 ≤ fpos (gnL S' l) then clm l f' (flp S' (fpos (gnL S' l)).toNat) (k + 1) else (S', k)
        rw [hp, if_pos (by omega), Int.toNat_natCast]
      have Hcn := Lib.hid hcn
      have Hv := Lib.hid (show 5000 - valL (flp S' p) l < f' by omega)
      rw [hp]
      have hkI : (k : Int) ≤ 10001 := by omega
      clear hp hcl hvf hvi hval hpp hcn
      generalize flp S' p = S2 at *
      go_wp2_with (first
        | (go_at_call 41; refine (hfc _).mono ?_; rintro e w4 ⟨rfl, rfl⟩)
        | (go_at_call 38; with_reducible refine (hgn.out S2 _ hfl hb).mono ?_; rintro e w5 ⟨rfl, b5⟩)
        | (go_at_call 40; with_reducible refine (Hfp.out S2 _).mono ?_; rintro e w6 ⟨rfl, b6⟩))
      go_roundw
      case rel => exact ⟨S2, k + 1, f', hfl, rfl, by go_num, rfl, Hcn.out, Hv.out, by omega, (hb.next b5).next b6⟩
      case measure => simp [intOf]; omega
end Go.Proofs.Ytngonghgkeobhaa
