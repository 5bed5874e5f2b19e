/- The walks of Powers, Logs, Roots. -/
import Derived.Test.YtdploccpobpjjaaSh
import Derived.Laws.MakeOwn
import Derived.Laws.OwnMore
namespace Go.Proofs.Ytdploccpobpjjaa
open Go.RowKit Go.Shelf
set_option linter.unusedVariables false

theorem infoI : (Try.prog.info? 3).map (fun i => (i.zero, i.size, i.bytes)) = some (some (.int .i64 0), 1, 8) := by kernel_rfl
theorem madeInts (n : Nat) : madeCells #[Value.int .i64 0] (n * 1) = ic (List.replicate n 0) := by
  apply Array.toList_inj.1
  rw [Nat.mul_one, toList_madeCells_one]
  simp [ic]
theorem makeI (m : Int) (n : Nat) (h : m = n) (hn : n ≤ 1000) (w : World) : (Instr.makeSlice 22 (.int .i64 m) (.int .i64 m)).run Try.prog w = .ok (.slice (some ⟨w.heap.size, 0, none⟩) n n) (w.alloc (.cells (ic (List.replicate n 0)) 3)) := by
  obtain ⟨i0, hi, hz0, hz1, hz2⟩ := info_parts infoI
  subst h
  have := run_makeSlice (P := Try.prog) (w := w) 22 3 i0 (.int .i64 0) Try.underlying22 hi hz0 .i64 .i64 n n (by omega) (by omega) (by rw [hz1]; omega) (by rw [hz2]; omega) (by omega)
  rw [this, hz1, Int.toNat_natCast]
  show Result.ok _ (w.alloc (.cells (madeCells #[Value.int .i64 0] (n * 1)) _)) = _
  rw [madeInts]
theorem take_set_eq (l t : List Int) (k : Nat) (y : Int) (hk : k < l.length) (h : l.take k = t.take k) (hy : t[k]? = some y) : (l.set k y).take (k + 1) = t.take (k + 1) := by
  obtain ⟨hkt, rfl⟩ := List.getElem?_eq_some_iff.1 hy
  rw [set_take l k _ _ hk h, List.take_succ_eq_append_getElem hkt]
/-- The order of the powers of a root. -/
def powL (p g s : Nat) : List Int := (List.range (p - 1)).map fun i => (pwr p g ((i + s) % (p - 1)) : Int) - 1
def goodP (p g s : Int) : Bool := primeB p && (rootB p g && decide (0 ≤ s ∧ s ≤ p - 2))
set_option maxHeartbeats 4000000 in
set_option maxRecDepth 100000 in
theorem powers_yes (p g s : Nat) (hp : primeB p = true) (hr : rootB p g = true) (hs : s + 2 ≤ p) (w : World) :
    Calls Try.prog 24 #[.int .i64 p, .int .i64 g, .int .i64 s] w fun e w' => ∃ b, e = .returned (.tuple #[.slice (some ⟨b, 0, none⟩) (p - 1) (p - 1), .int .i64 0]) ∧ w.heap.size ≤ b ∧ At w' b 3 (ic (powL p g s)) ∧ Keeps w w' := by
  have hp17 : 3 ≤ p ∧ p ≤ 17 := by simp [primeB] at hp; omega
  have hg : 1 ≤ g ∧ g < p := by simp [rootB] at hr; omega
  have hpr := fun x => isPrime_c p x
  have hro := fun x => isRoot_c p g (by omega) (by omega) x
  have hpw := fun x => powersOf_c p g (by omega) (by omega) (by omega) x
  rw [hp] at hpr
  rw [hr] at hro
  obtain ⟨h3, h17⟩ := hp17
  obtain ⟨g1, g2⟩ := hg
  have d1 : decide ((s : Int) < 0) = false := by simp
  have d2 : decide ((p : Int) - 2 < (s : Int)) = false := by simp; omega
  have hmk := makeI ((p : Int) - 1) (p - 1) (by omega) (by omega)
  have hlen : (powL p g s).length = p - 1 := by simp [powL]
  have Hlen := Lib.hid hlen
  clear hp hr hlen
  go_enter Try.func24, Try.ntmps24
  go_wp2_with (first
    | (go_at_call 35; refine (hpr _).mono ?_; rintro e w1 ⟨rfl, rfl⟩)
    | (go_at_call 36; refine (hro _).mono ?_; rintro e w2 ⟨rfl, hb2⟩)
    | (go_at_call 37; refine (hpw _).mono ?_; rintro e w3 ⟨rfl, hb3⟩)
    | (refine wpList_store_row rfl 65 _ _ rfl w3.heap.size (ic (powK p g (p - 1))) rfl rfl 65 (ic zero17) (At.new w3 _ _) (sizeR _ (powK_length _ _ _)) (by rw [ic_size, ic_size, powK_length]; rfl) (ic_one _) ?_
       have h2 : At ((w3.alloc (.cells (ic zero17) 65)).setRow w3.heap.size (ic (powK p g (p - 1)))) w3.heap.size 65 (ic (powK p g (p - 1))) := (At.new w3 _ _).row _
       have hk2 : Keeps w ((w3.alloc (.cells (ic zero17) 65)).setRow w3.heap.size (ic (powK p g (p - 1)))) := below_row (Keeps.alloc (Keeps.next hb2 hb3) _) (Keeps.next hb2 hb3).size _
       change wpList _ _ _ _ _ ((w3.alloc (.cells (ic zero17) 65)).setRow w3.heap.size (ic (powK p g (p - 1))))
       generalize (w3.alloc (.cells (ic zero17) 65)).setRow w3.heap.size (ic (powK p g (p - 1))) = Y at *
       generalize w3.heap.size = gp at *))
  clear hpr hro hpw hmk
  have hgl : At (Y.alloc (.cells (ic (List.replicate (p - 1) 0)) 3)) Y.heap.size 3 (ic (List.replicate (p - 1) 0)) := At.new _ _ _
  have hkl : Keeps w (Y.alloc (.cells (ic (List.replicate (p - 1) 0)) 3)) := Keeps.alloc hk2 _
  have h2l : At (Y.alloc (.cells (ic (List.replicate (p - 1) 0)) 3)) gp 65 (ic (powK p g (p - 1))) := h2.alloc _
  have hne : gp < Y.heap.size := h2.lt
  have hwY := hk2.size
  generalize Y.alloc (.cells (ic (List.replicate (p - 1) 0)) 3) = Z at *
  generalize Y.heap.size = gl at *
  clear hk2 h2
  go_loopw [38] (fun i wr => ∃ (k : Nat) (lst : List Int), k ≤ p - 1 ∧ i = .int .i64 k ∧ lst.length = p - 1 ∧ lst.take k = (powL p g s).take k ∧ At wr gl 3 (ic lst) ∧ At wr gp 65 (ic (powK p g (p - 1))) ∧ Keeps w wr) (fun i _ => p - (intOf i).toNat)
  case atStart => exact ⟨0, _, Nat.zero_le _, rfl, by simp, by simp, hgl, h2l, hkl⟩
  case round =>
    obtain ⟨k, lst, hk, rfl, hll, hpre, hl, h2, hb⟩ := hrel
    have Hpre := Lib.hid hpre
    have Hll := Lib.hid hll
    clear hgl hkl h2l hpre hll
    by_cases hlt : k < p - 1
    · obtain ⟨m, hm⟩ : ∃ m : Nat, m = (k + s) % (p - 1) := ⟨_, rfl⟩
      have hmlt : m < p - 1 := by rw [hm]; exact Nat.mod_lt _ (by omega)
      have hmI : ((k : Int) + (s : Int)) % ((p : Int) - 1) = (m : Int) := by
        rw [hm, show ((p : Int) - 1) = ((p - 1 : Nat) : Int) by omega]; simp
      have hck := h2.int m (by rw [powK_length]; omega)
      rw [powK_at _ _ _ _ (by omega), if_pos (by omega)] at hck
      have hpl := pwr_lt p g (by omega) m
      have hval : (powL p g s)[k]? = some ((pwr p g m : Int) - 1) := by rw [hm]; simp [powL, hlt]
      have Hval := Lib.hid hval
      generalize pwr p g m = x at *
      have fk := hl.frozen k
      have ck := hl.int k (by rw [Hll.out]; exact hlt)
      have hkI : (k : Int) < (p : Int) - 1 := by omega
      clear hm hval
      go_wp2_with fail
      exact ⟨⟨k + 1, lst.set k ((x : Int) - 1), by omega, by go_num, by rw [List.length_set]; exact Hll.out, take_set_eq lst _ k _ (by rw [Hll.out]; exact hlt) Hpre.out Hval.out, by rw [← ic_set]; exact hl.set k _, h2.far (by simp; omega) _, hb.setCell (by simp; omega) _⟩, by simp [intOf]; omega⟩
    · have hke : k = p - 1 := by omega
      have Hke := Lib.hid hke
      clear hke
      go_wp2_with fail
      go_ret2
      have hle : lst = powL p g s := by
        have := Hpre.out
        rwa [Hke.out, List.take_of_length_le (by rw [Hll.out]; omega), List.take_of_length_le (by rw [Hlen.out]; omega)] at this
      exact ⟨gl, rfl, by omega, by rw [← hle]; exact hl, hb⟩

theorem nth_set (l : List Int) (i k : Nat) (x : Int) : nth (l.set i x) k = if i = k ∧ i < l.length then x else nth l k := by
  unfold nth
  by_cases h : i = k
  · subst h
    by_cases hl : i < l.length
    · simp [hl]
    · simp [hl]
  · simp [h, List.getElem?_set_ne h]
theorem logK_in (p g k i : Nat) : 0 ≤ nth (logK p g k) i ∧ nth (logK p g k) i ≤ k := by
  induction k with
  | zero =>
    have : nth (logK p g 0) i = 0 := by
      show nth zero17 i = 0
      unfold nth zero17
      by_cases h : i < 17
      · rw [List.getElem?_replicate, if_pos h]; rfl
      · rw [List.getElem?_eq_none (by simp; omega)]; rfl
    rw [this]; omega
  | succ k ih =>
    rw [logK, nth_set]
    split
    · omega
    · omega
/-- The order of two roots. -/
def logL (p g h : Nat) : List Int := (List.range (p - 2)).map fun i => nth (logK p h (p - 1)) (p + 1 - pwr p g (i + 1)) - 1
theorem root_pows : ((List.range 18).all fun p => (List.range p).all fun g => !(primeB p && rootB p g) || (List.range (p - 1)).all fun i => decide (i = 0) || decide (2 ≤ pwr p g i)) = true := by decide +kernel
theorem root_pow (p g i : Nat) (hp : primeB p = true) (hr : rootB p g = true) (hi : 1 ≤ i) (hi2 : i + 1 < p) : 2 ≤ pwr p g i := by
  have hp17 : 3 ≤ p ∧ p ≤ 17 := by simp [primeB] at hp; omega
  have hg : 1 ≤ g ∧ g < p := by simp [rootB] at hr; omega
  have h1 := List.all_eq_true.1 root_pows p (List.mem_range.2 (by omega))
  have h2 := List.all_eq_true.1 h1 g (List.mem_range.2 hg.2)
  rw [hp, hr] at h2
  have h3 := List.all_eq_true.1 (by simpa using h2 : ((List.range (p - 1)).all fun i => decide (i = 0) || decide (2 ≤ pwr p g i)) = true) i (List.mem_range.2 (by omega))
  simp at h3
  omega
set_option maxHeartbeats 4000000 in
set_option maxRecDepth 100000 in
theorem logs_yes (p g h : Nat) (hp : primeB p = true) (hr : rootB p g = true) (hrh : rootB p h = true) (w : World) :
    Calls Try.prog 25 #[.int .i64 p, .int .i64 g, .int .i64 h] w fun e w' => ∃ b, e = .returned (.tuple #[.slice (some ⟨b, 0, none⟩) (p - 2) (p - 2), .int .i64 0]) ∧ w.heap.size ≤ b ∧ At w' b 3 (ic (logL p g h)) ∧ Keeps w w' := by
  have hp17 : 3 ≤ p ∧ p ≤ 17 := by simp [primeB] at hp; omega
  have hg : 1 ≤ g ∧ g < p := by simp [rootB] at hr; omega
  have hh : 1 ≤ h ∧ h < p := by simp [rootB] at hrh; omega
  have hpr := fun x => isPrime_c p x
  have hro := fun x => isRoot_c p g (by omega) (by omega) x
  have hroh := fun x => isRoot_c p h (by omega) (by omega) x
  have hpw := fun x => powersOf_c p g (by omega) (by omega) (by omega) x
  have hlo := fun x => logsOf_c p h (by omega) (by omega) (by omega) x
  have Hrp := Lib.hid (fun i => root_pow p g i hp hr)
  rw [hp] at hpr
  rw [hr] at hro
  rw [hrh] at hroh
  obtain ⟨h3, h17⟩ := hp17
  obtain ⟨g1, g2⟩ := hg
  have hmk := makeI ((p : Int) - 2) (p - 2) (by omega) (by omega)
  have hlen : (logL p g h).length = p - 2 := by simp [logL]
  have Hlen := Lib.hid hlen
  clear hp hr hrh hlen hh
  go_enter Try.func25, Try.ntmps25
  go_wp2_with (first
    | (go_at_call 35; refine (hpr _).mono ?_; rintro e w1 ⟨rfl, rfl⟩)
    | (go_at_call 36; have tok := hpr; clear hpr; refine (hro _).mono ?_; rintro e w2 ⟨rfl, hb2⟩)
    | (go_at_call 36; refine (hroh _).mono ?_; rintro e w3 ⟨rfl, hb3⟩)
    | (go_at_call 37; refine (hpw _).mono ?_; rintro e w4 ⟨rfl, hb4⟩)
    | (go_at_call 38; refine (hlo _).mono ?_; rintro e w5 ⟨rfl, hb5⟩; have hk5 : Keeps w w5 := Keeps.next (Keeps.next (Keeps.next hb2 hb3) hb4) hb5)
    | (refine wpList_store_row rfl 65 _ _ rfl w5.heap.size (ic (powK p g (p - 1))) rfl rfl 65 (ic zero17) ((At.new w5 _ _).alloc _) (sizeR _ (powK_length _ _ _)) (by rw [ic_size, ic_size, powK_length]; rfl) (ic_one _) ?_)
    | (refine wpList_store_row rfl 65 _ _ rfl (w5.heap.size + 1) (ic (logK p h (p - 1))) rfl rfl 65 (ic zero17) ((At.new2 w5 _ _ _).rowfar (by omega) _) (sizeR _ (logK_length _ _ _)) (by rw [ic_size, ic_size, logK_length]; rfl) (ic_one _) ?_
       have h82 : At ((((w5.alloc (.cells (ic zero17) 65)).alloc (.cells (ic zero17) 65)).setRow w5.heap.size (ic (powK p g (p - 1)))).setRow (w5.heap.size + 1) (ic (logK p h (p - 1)))) w5.heap.size 65 (ic (powK p g (p - 1))) := (((At.new w5 _ _).alloc _).row _).rowfar (by omega) _
       have h92 : At ((((w5.alloc (.cells (ic zero17) 65)).alloc (.cells (ic zero17) 65)).setRow w5.heap.size (ic (powK p g (p - 1)))).setRow (w5.heap.size + 1) (ic (logK p h (p - 1)))) (w5.heap.size + 1) 65 (ic (logK p h (p - 1))) := ((At.new2 w5 _ _ _).rowfar (by omega) _).row _
       have hk2 : Keeps w ((((w5.alloc (.cells (ic zero17) 65)).alloc (.cells (ic zero17) 65)).setRow w5.heap.size (ic (powK p g (p - 1)))).setRow (w5.heap.size + 1) (ic (logK p h (p - 1)))) := below_row (below_row (Keeps.alloc (Keeps.alloc hk5 _) _) hk5.size _) (by have := hk5.size; omega) _
       change wpList _ _ _ _ _ ((((w5.alloc (.cells (ic zero17) 65)).alloc (.cells (ic zero17) 65)).setRow w5.heap.size (ic (powK p g (p - 1)))).setRow (w5.heap.size + 1) (ic (logK p h (p - 1))))
       generalize (((w5.alloc (.cells (ic zero17) 65)).alloc (.cells (ic zero17) 65)).setRow w5.heap.size (ic (powK p g (p - 1)))).setRow (w5.heap.size + 1) (ic (logK p h (p - 1))) = Y at *
       generalize w5.heap.size = gp at *))
  clear hro hroh hpw hlo hmk
  have hgl : At (Y.alloc (.cells (ic (List.replicate (p - 2) 0)) 3)) Y.heap.size 3 (ic (List.replicate (p - 2) 0)) := At.new _ _ _
  have hkl : Keeps w (Y.alloc (.cells (ic (List.replicate (p - 2) 0)) 3)) := Keeps.alloc hk2 _
  have h8l : At (Y.alloc (.cells (ic (List.replicate (p - 2) 0)) 3)) gp 65 (ic (powK p g (p - 1))) := h82.alloc _
  have h9l : At (Y.alloc (.cells (ic (List.replicate (p - 2) 0)) 3)) (gp + 1) 65 (ic (logK p h (p - 1))) := h92.alloc _
  have hne : gp + 1 < Y.heap.size := h92.lt
  have hwY := hk2.size
  generalize Y.alloc (.cells (ic (List.replicate (p - 2) 0)) 3) = Z at *
  generalize Y.heap.size = gl at *
  clear hk2 h82 h92
  go_loopw [39] (fun i wr => ∃ (k : Nat) (lst : List Int), k ≤ p - 2 ∧ i = .int .i64 k ∧ lst.length = p - 2 ∧ lst.take k = (logL p g h).take k ∧ At wr gl 3 (ic lst) ∧ At wr gp 65 (ic (powK p g (p - 1))) ∧ At wr (gp + 1) 65 (ic (logK p h (p - 1))) ∧ Keeps w wr) (fun i _ => p - (intOf i).toNat)
  case atStart => exact ⟨0, _, Nat.zero_le _, rfl, by simp, by simp, hgl, h8l, h9l, hkl⟩
  case round =>
    obtain ⟨k, lst, hk, rfl, hll, hpre, hl, h8, h9, hb⟩ := hrel
    have Hpre := Lib.hid hpre
    have Hll := Lib.hid hll
    clear hgl hkl h8l h9l hpre hll
    by_cases hlt : k < p - 2
    · have hck := h8.int (k + 1) (by rw [powK_length]; omega)
      rw [powK_at _ _ _ _ (by omega), if_pos (by omega)] at hck
      have hpl := pwr_lt p g (by omega) (k + 1)
      have hpg := Hrp.out (k + 1) (by omega) (by omega)
      obtain ⟨m, hm⟩ : ∃ m, m = p + 1 - pwr p g (k + 1) := ⟨_, rfl⟩
      have hmlt : m < 17 := by omega
      have hmI : (p : Int) + 1 - (pwr p g (k + 1) : Int) = (m : Int) := by omega
      have hcm := h9.int m (by rw [logK_length]; omega)
      have hval : (logL p g h)[k]? = some (nth (logK p h (p - 1)) m - 1) := by rw [hm]; simp [logL, hlt]
      have Hval := Lib.hid hval
      have hbd : 0 ≤ nth (logK p h (p - 1)) m ∧ nth (logK p h (p - 1)) m < 1000 := by have := logK_in p h (p - 1) m; omega
      generalize pwr p g (k + 1) = x at *
      generalize nth (logK p h (p - 1)) m = y at *
      have fk := hl.frozen k
      have ck := hl.int k (by rw [Hll.out]; exact hlt)
      have hkI : (k : Int) < (p : Int) - 2 := by omega
      obtain ⟨y0, y1⟩ := hbd
      clear hm hval
      go_wp2_with fail
      exact ⟨⟨k + 1, lst.set k (y - 1), by omega, by go_num, by rw [List.length_set]; exact Hll.out, take_set_eq lst _ k _ (by rw [Hll.out]; exact hlt) Hpre.out Hval.out, by rw [← ic_set]; exact hl.set k _, h8.far (by simp; omega) _, h9.far (by simp; omega) _, hb.setCell (by simp; omega) _⟩, by simp [intOf]; omega⟩
    · have hke : k = p - 2 := by omega
      have Hke := Lib.hid hke
      clear hke
      go_wp2_with fail
      go_ret2
      have hle : lst = logL p g h := by
        have := Hpre.out
        rwa [Hke.out, List.take_of_length_le (by rw [Hll.out]; omega), List.take_of_length_le (by rw [Hlen.out]; omega)] at this
      exact ⟨gl, rfl, by omega, by rw [← hle]; exact hl, hb⟩

/-- What is handed over if something is wrong. -/
theorem nil_ret2 (w : World) : RdI w (.slice none 0 0) [] := ⟨none, 0, rfl, by unfold maxLen; simp, fun k hk => by simp at hk⟩
set_option maxHeartbeats 2000000 in
theorem powers_no (p g s : Int) (h : goodP p g s = false) (w : World) :
    Calls Try.prog 24 #[.int .i64 p, .int .i64 g, .int .i64 s] w fun e w' => e = .returned (.tuple #[.slice none 0 0, .int .i64 2]) ∧ Keeps w w' := by
  have hpr := fun x => isPrime_c p x
  by_cases hp : primeB p = true
  · have hp17 : 3 ≤ p ∧ p ≤ 17 := by simp [primeB] at hp; omega
    have hro := fun x => isRoot_c p g hp17.1 hp17.2 x
    rw [hp] at hpr
    obtain ⟨p3, p17⟩ := hp17
    by_cases hr : rootB p g = true
    · rw [hr] at hro
      have hs : ¬ (0 ≤ s ∧ s ≤ p - 2) := by simpa [goodP, hp, hr] using h
      clear h hp hr
      by_cases hs0 : s < 0
      · clear hs
        go_enter Try.func24, Try.ntmps24
        go_wp2_with (first
          | (go_at_call 35; refine (hpr _).mono ?_; rintro e w1 ⟨rfl, rfl⟩)
          | (go_at_call 36; refine (hro _).mono ?_; rintro e w2 ⟨rfl, hb2⟩))
        go_ret2
        exact ⟨rfl, hb2⟩
      · have hs2 : p - 2 < s := by omega
        have hd : decide (s < 0) = false := by simpa using hs0
        clear hs
        go_enter Try.func24, Try.ntmps24
        go_wp2_with (first
          | (go_at_call 35; refine (hpr _).mono ?_; rintro e w1 ⟨rfl, rfl⟩)
          | (go_at_call 36; refine (hro _).mono ?_; rintro e w2 ⟨rfl, hb2⟩))
        go_ret2
        exact ⟨rfl, hb2⟩
    · have hr' : rootB p g = false := by simpa using hr
      rw [hr'] at hro
      clear h hp hr hr'
      go_enter Try.func24, Try.ntmps24
      go_wp2_with (first
        | (go_at_call 35; refine (hpr _).mono ?_; rintro e w1 ⟨rfl, rfl⟩)
        | (go_at_call 36; refine (hro _).mono ?_; rintro e w2 ⟨rfl, hb2⟩))
      go_ret2
      exact ⟨rfl, hb2⟩
  · have hp' : primeB p = false := by simpa using hp
    rw [hp'] at hpr
    clear h hp hp'
    go_enter Try.func24, Try.ntmps24
    go_wp2_with (first
      | (go_at_call 35; refine (hpr _).mono ?_; rintro e w1 ⟨rfl, rfl⟩))
    go_ret2
    exact ⟨rfl, Below.refl _ _⟩
def goodL (p g h : Int) : Bool := primeB p && (rootB p g && rootB p h)
set_option maxHeartbeats 2000000 in
theorem logs_no (p g k : Int) (h : goodL p g k = false) (w : World) :
    Calls Try.prog 25 #[.int .i64 p, .int .i64 g, .int .i64 k] w fun e w' => e = .returned (.tuple #[.slice none 0 0, .int .i64 2]) ∧ Keeps w w' := by
  have hpr := fun x => isPrime_c p x
  by_cases hp : primeB p = true
  · have hp17 : 3 ≤ p ∧ p ≤ 17 := by simp [primeB] at hp; omega
    have hro := fun x => isRoot_c p g hp17.1 hp17.2 x
    have hro2 := fun x => isRoot_c p k hp17.1 hp17.2 x
    rw [hp] at hpr
    obtain ⟨p3, p17⟩ := hp17
    by_cases hr : rootB p g = true
    · rw [hr] at hro
      have hr2 : rootB p k = false := by simpa [goodL, hp, hr] using h
      rw [hr2] at hro2
      clear h hp hr hr2
      go_enter Try.func25, Try.ntmps25
      go_wp2_with (first
        | (go_at_call 35; refine (hpr _).mono ?_; rintro e w1 ⟨rfl, rfl⟩)
        | (go_at_call 36; have tok := hpr; clear hpr; refine (hro _).mono ?_; rintro e w2 ⟨rfl, hb2⟩)
        | (go_at_call 36; refine (hro2 _).mono ?_; rintro e w3 ⟨rfl, hb3⟩))
      go_ret2
      exact ⟨rfl, Keeps.next hb2 hb3⟩
    · have hr' : rootB p g = false := by simpa using hr
      rw [hr'] at hro
      clear h hp hr hr' hro2
      go_enter Try.func25, Try.ntmps25
      go_wp2_with (first
        | (go_at_call 35; refine (hpr _).mono ?_; rintro e w1 ⟨rfl, rfl⟩)
        | (go_at_call 36; refine (hro _).mono ?_; rintro e w2 ⟨rfl, hb2⟩))
      go_ret2
      exact ⟨rfl, hb2⟩
  · have hp' : primeB p = false := by simpa using hp
    rw [hp'] at hpr
    clear h hp hp'
    go_enter Try.func25, Try.ntmps25
    go_wp2_with (first
      | (go_at_call 35; refine (hpr _).mono ?_; rintro e w1 ⟨rfl, rfl⟩))
    go_ret2
    exact ⟨rfl, Below.refl _ _⟩

end Go.Proofs.Ytdploccpobpjjaa
