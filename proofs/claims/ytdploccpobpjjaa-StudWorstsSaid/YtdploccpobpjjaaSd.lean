/- The walks of slices.Index and Contains; the words of the search. -/
import Derived.Test.YtdploccpobpjjaaSc
namespace Go.Proofs.Ytdploccpobpjjaa
open Go.RowKit Go.Shelf
set_option linter.unusedVariables false

set_option maxHeartbeats 1000000 in
theorem index_in (v : Value) (l : List Int) (x : Int) (w : World) (hv : RdI w v l) (hx : x ∈ l) :
    Calls Try.prog 48 #[v, .int .i64 x] w fun e w' => ∃ k : Nat, e = .returned (.int .i64 k) ∧ w = w' := by
  obtain ⟨A, c, rfl, hm, hcs⟩ := id hv
  unfold maxLen at hm
  have Hx := Lib.hid hx
  clear hx
  go_enter Try.func48, Try.ntmps48
  go_wp2_with fail
  go_loop [8] (fun i => ∃ k : Nat, k ≤ l.length ∧ i = .int .i64 k ∧ x ∉ l.take k) (fun i => l.length - (intOf i).toNat)
  case atStart => exact ⟨0, Nat.zero_le _, rfl, by simp⟩
  case round =>
    obtain ⟨k, hk, rfl, hno⟩ := hrel
    have Hno := Lib.hid hno
    clear hno
    by_cases hlt : k < l.length
    · obtain ⟨b0, off, u, rfl, hcell, rfl⟩ := hcs k hlt
      have ht := take_nth l k hlt
      have Ht := Lib.hid ht
      clear hcs ht
      by_cases he : x = nth l k
      · have hb : (x == nth l k) = true := by simp [he]
        clear he
        go_wp2_with fail
        go_ret
        exact ⟨⟨k, rfl⟩, rfl⟩
      · have hb : (x == nth l k) = false := by simp [he]
        have He := Lib.hid he
        clear he
        go_wp2_with fail
        go_round
        case rel => exact ⟨k + 1, by omega, by go_num, by rw [Ht.out]; simp [Hno.out, He.out]⟩
        case measure => simp [intOf]; omega
    · exfalso
      refine Hno.out ?_
      rw [List.take_of_length_le (by omega)]; exact Hx.out
set_option maxHeartbeats 1000000 in
theorem index_out (v : Value) (l : List Int) (x : Int) (w : World) (hv : RdI w v l) (hx : x ∉ l) :
    Calls Try.prog 48 #[v, .int .i64 x] w fun e w' => e = .returned (.int .i64 (-1)) ∧ w = w' := by
  obtain ⟨A, c, rfl, hm, hcs⟩ := id hv
  unfold maxLen at hm
  have Hx := Lib.hid hx
  clear hx
  go_enter Try.func48, Try.ntmps48
  go_wp2_with fail
  go_loop [8] (fun i => ∃ k : Nat, k ≤ l.length ∧ i = .int .i64 k) (fun i => l.length - (intOf i).toNat)
  case atStart => exact ⟨0, Nat.zero_le _, rfl⟩
  case round =>
    obtain ⟨k, hk, rfl⟩ := hrel
    by_cases hlt : k < l.length
    · obtain ⟨b0, off, u, rfl, hcell, rfl⟩ := hcs k hlt
      have hb : (x == nth l k) = false := by
        rw [beq_eq_false_iff_ne]; intro e; exact Hx.out (e ▸ nth_mem l k hlt)
      clear hcs
      go_wp2_with fail
      go_round
      case rel => exact ⟨k + 1, by omega, by go_num⟩
      case measure => simp [intOf]; omega
    · have hke : k = l.length := by omega
      have Hke := Lib.hid hke
      clear hke
      go_wp2_with fail
      go_ret
      exact ⟨rfl, rfl⟩
set_option maxHeartbeats 1000000 in
theorem contains_c (v : Value) (l : List Int) (x : Int) (w : World) (hv : RdI w v l) :
    Calls Try.prog 44 #[v, .int .i64 x] w fun e w' => e = .returned (.bool (decide (x ∈ l))) ∧ w = w' := by
  obtain ⟨A, c, rfl, hm, hcs⟩ := id hv
  by_cases hx : x ∈ l
  · have hi := index_in _ l x w hv hx
    have Hx := Lib.hid hx
    clear hx hcs
    go_enter Try.func44, Try.ntmps44
    go_wp2_with (go_at_call 48; refine hi.mono ?_; rintro e w1 ⟨k, rfl, rfl⟩; have hk0 : 0 ≤ (k : Int) := by omega)
    go_ret
    exact ⟨ret_bool (by simp [Hx.out]), rfl⟩
  · have hi := index_out _ l x w hv hx
    have Hx := Lib.hid hx
    clear hx hcs
    go_enter Try.func44, Try.ntmps44
    go_wp2_with (go_at_call 48; refine hi.mono ?_; rintro e w1 ⟨rfl, rfl⟩)
    go_ret
    exact ⟨ret_bool (by simp [Hx.out]), rfl⟩

/-- A row that can't come next. -/
def badR (pre : List Int) (s : Int) : Bool := decide (s ∈ pre) || lastB (pre ++ [s])
/-- All ways to go on from pre by fuel more columns, in ascending order; those whose next row lies below s. -/
def cext (d : Nat) : Nat → List Int → List (List Int)
  | 0, pre => [pre]
  | fuel + 1, pre => (List.range d).flatMap fun s : Nat => if badR pre s then [] else cext d fuel (pre ++ [(s : Int)])
def cextP (d fuel : Nat) (pre : List Int) (s : Nat) : List (List Int) := (List.range s).flatMap fun s : Nat => if badR pre s then [] else cext d fuel (pre ++ [(s : Int)])
theorem cext_succ (d fuel : Nat) (pre : List Int) : cext d (fuel + 1) pre = cextP d fuel pre d := rfl
theorem cextP_bad (d fuel : Nat) (pre : List Int) (s : Nat) (h : badR pre s = true) : cextP d fuel pre (s + 1) = cextP d fuel pre s := by simp [cextP, List.range_succ, h]
theorem cextP_new (d fuel : Nat) (pre : List Int) (s : Nat) (h : badR pre s = false) : cextP d fuel pre (s + 1) = cextP d fuel pre s ++ cext d fuel (pre ++ [(s : Int)]) := by simp [cextP, List.range_succ, h]
theorem range_split (s d : Nat) (h : s ≤ d) : List.range d = List.range s ++ (List.range (d - s)).map (s + ·) := by
  have := List.range_add (n := s) (m := d - s)
  rwa [show s + (d - s) = d from by omega] at this
theorem cextP_prefix (d fuel : Nat) (pre : List Int) (s s' : Nat) (h : s ≤ s') : ∃ t, cextP d fuel pre s' = cextP d fuel pre s ++ t :=
  ⟨_, by unfold cextP; rw [range_split s s' h, List.flatMap_append]⟩
/-- The list ys lies in xs from place k on. -/
def Lies {α : Type} (xs : List α) (k : Nat) (ys : List α) : Prop := ∀ i x, ys[i]? = some x → xs[k + i]? = some x
theorem Lies.part {d fuel : Nat} {pre : List Int} {xs : List (List Int)} {k s : Nat} (h : Lies xs k (cextP d fuel pre d)) (hs : s < d) (hn : badR pre s = false) : Lies xs (k + (cextP d fuel pre s).length) (cext d fuel (pre ++ [(s : Int)])) := by
  intro i x hx
  obtain ⟨t, ht⟩ := cextP_prefix d fuel pre (s + 1) d (by omega)
  rw [cextP_new _ _ _ _ hn] at ht
  have h1 := h ((cextP d fuel pre s).length + i) x (by
    have hi := (List.getElem?_eq_some_iff.1 hx).1
    rw [ht, List.append_assoc, List.getElem?_append_right (by omega), show (cextP d fuel pre s).length + i - (cextP d fuel pre s).length = i from by omega, List.getElem?_append_left hi]
    exact hx)
  rwa [← Nat.add_assoc] at h1
theorem set_take (l : List Int) (k : Nat) (pre : List Int) (x : Int) (hk : k < l.length) (h : l.take k = pre) : (l.set k x).take (k + 1) = pre ++ [x] := by
  rw [List.take_succ_eq_append_getElem (by simpa using hk)]
  simp [List.take_set_of_le, h]
/-- All clear orders of n columns that begin with start. -/
def clrs (start : List Int) (n : Nat) : List (List Int) := if clearB start then cext n (n - start.length) start else []
theorem low_all (l : List Int) (n : Nat) (hn : n ≤ 1000) (h : l.all (hasB n) = true) : low l := by
  intro k
  by_cases hk : k < l.length
  · have := (hasB_iff _ _).1 (List.all_eq_true.1 h _ (nth_mem l k hk)); omega
  · have : nth l k = 0 := by unfold nth; rw [List.getElem?_eq_none (by omega)]; rfl
    rw [this]; decide
theorem all_snoc' (d : Nat) (pre : List Int) (s : Nat) (hs : s < d) (h : pre.all (hasB d) = true) : (pre ++ [(s : Int)]).all (hasB d) = true := by
  rw [List.all_append, h]; simp [hasB]; omega
end Go.Proofs.Ytdploccpobpjjaa
