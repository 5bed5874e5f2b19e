/- Lists of edges in memory; the walk of value. -/
import Derived.Test.YtngonghgkeobhaaBa
namespace Go.Proofs.Ytngonghgkeobhaa
open Go.RowKit
set_option linter.unusedVariables false
set_option linter.unusedSimpArgs false

abbrev Ed := Int × Int × Int
/-- v reads as the list of edges l. -/
def RdE (w : World) (v : Value) (l : List Ed) : Prop :=
  ∃ A c, v = .slice A l.length c ∧ l.length ≤ maxLen ∧ ∀ (k : Nat) (x : Ed), l[k]? = some x → ∃ b off, A = some ⟨b, off, none⟩ ∧ w.cell? ⟨b, off + k * 3, none⟩ = some (.int .i64 x.1) ∧ w.cell? ⟨b, off + k * 3 + 1, none⟩ = some (.int .i64 x.2.1) ∧ w.cell? ⟨b, off + k * 3 + 2, none⟩ = some (.int .i64 x.2.2)
theorem RdE.below {w w' : World} {v : Value} {l : List Ed} (h : RdE w v l) (hb : Below w.heap.size w w') : RdE w' v l := by
  obtain ⟨A, c, rfl, hm, hc⟩ := h
  refine ⟨A, c, rfl, hm, fun k x hk => ?_⟩
  obtain ⟨b, off, hA, h1, h2, h3⟩ := hc k x hk
  exact ⟨b, off, hA, cell_keep h1 hb, cell_keep h2 hb, cell_keep h3 hb⟩
/-- What an edge adds to the value of a side. -/
def wgt (s : Nat) (x : Ed) : Int := if (hs s x.1.toNat != hs s x.2.1.toNat) = true then x.2.2 else 0
def valL (s : Nat) (l : List Ed) : Int := l.foldl (fun a x => a + wgt s x) 0
theorem valL_snoc (s : Nat) (l : List Ed) (x : Ed) : valL s (l ++ [x]) = valL s l + wgt s x := by simp [valL]
theorem take_at {α : Type} (l : List α) (k : Nat) (x : α) (h : l[k]? = some x) : l.take (k + 1) = l.take k ++ [x] := by
  obtain ⟨hk, rfl⟩ := List.getElem?_eq_some_iff.1 h
  rw [List.take_succ_eq_append_getElem hk]
/-- Edges of a graph of at most 12 vertices. -/
def edgesOk (l : List Ed) : Prop := l.length ≤ 41 ∧ ∀ x ∈ l, 0 ≤ x.1 ∧ x.1 < 12 ∧ 0 ≤ x.2.1 ∧ x.2.1 < 12 ∧ -50 ≤ x.2.2 ∧ x.2.2 ≤ 50
theorem wgt_in (s : Nat) (x : Ed) (h : -50 ≤ x.2.2 ∧ x.2.2 ≤ 50) : -50 ≤ wgt s x ∧ wgt s x ≤ 50 := by unfold wgt; split <;> omega
theorem valL_in (s : Nat) (l : List Ed) (h : edgesOk l) (k : Nat) : -5000 ≤ valL s (l.take k) ∧ valL s (l.take k) ≤ 5000 := by
  have key : ∀ (m : List Ed) (a : Int), (∀ x ∈ m, -50 ≤ x.2.2 ∧ x.2.2 ≤ 50) → a - 50 * m.length ≤ m.foldl (fun a x => a + wgt s x) a ∧ m.foldl (fun a x => a + wgt s x) a ≤ a + 50 * m.length := by
    intro m
    induction m with
    | nil => intro a _; simp
    | cons x m ih =>
      intro a hm
      have h1 := ih (a + wgt s x) (fun y hy => hm y (List.mem_cons_of_mem _ hy))
      have h2 := wgt_in s x (hm x List.mem_cons_self)
      rw [List.foldl_cons, List.length_cons]
      omega
  have h1 := key (l.take k) 0 (fun x hx => (h.2 x (List.mem_of_mem_take hx)).2.2.2.2)
  have h2 : (l.take k).length ≤ 41 := Nat.le_trans (by rw [List.length_take]; omega) h.1
  unfold valL
  omega
set_option maxHeartbeats 2000000 in
set_option maxRecDepth 100000 in
theorem value_c (g s : Nat) (v : Value) (l : List Ed) (hl : edgesOk l) (h : s < 65536) (w : World) (hg : w.cell? ⟨g, 1, none⟩ = some v) (hv : RdE w v l) :
    Calls Try.prog 32 #[.pointer (some ⟨g, 0, none⟩), .int .u16 s] w fun e w' => e = .returned (.int .i64 (valL s l)) ∧ Keeps w w' := by
  obtain ⟨A, c, rfl, hm, hcs⟩ := id hv
  have hl41 := hl.1
  go_enter Try.func32, Try.ntmps32
  go_wp2_with fail
  go_loopw [5, 13] (fun sum i wr => ∃ k : Nat, k ≤ l.length ∧ i = .int .i64 k ∧ sum = .int .i64 (valL s (l.take k)) ∧ Keeps w wr) (fun _ i _ => l.length - (intOf i).toNat)
  case atStart => exact ⟨0, Nat.zero_le _, rfl, rfl, Below.refl _ _⟩
  case round =>
    obtain ⟨k, hk, rfl, rfl, hb⟩ := hrel
    generalize wr = w0 at *
    by_cases hlt : k < l.length
    · obtain ⟨x, hx⟩ : ∃ x, l[k]? = some x := ⟨_, List.getElem?_eq_getElem hlt⟩
      obtain ⟨b, off, rfl, c1, c2, c3⟩ := hcs k x hx
      have hxm := hl.2 x (List.mem_of_getElem? hx)
      have hin := valL_in s l hl k
      have hw := wgt_in s x hxm.2.2.2.2
      have hs2 : valL s (l.take (k + 1)) = valL s (l.take k) + wgt s x := by rw [take_at l k x hx, valL_snoc]
      have c1 := cell_keep c1 hb
      have c2 := cell_keep c2 hb
      have c3 := cell_keep c3 hb
      have hkI : (k : Int) < (l.length : Int) := by omega
      clear hcs
      obtain ⟨xa, xb, xc⟩ := x
      simp only at hxm c1 c2 c3
      obtain ⟨a, rfl⟩ := Int.eq_ofNat_of_zero_le hxm.1
      obtain ⟨b', rfl⟩ := Int.eq_ofNat_of_zero_le hxm.2.2.1
      have cc := fun z => cuts_c s a b' xc (by omega) (by omega) h z
      have hwg : wgt s ((a : Int), (b' : Int), xc) = if (hs s a != hs s b') = true then xc else 0 := by unfold wgt; simp
      rw [hwg] at hs2 hw
      have HS := Lib.hid hs2
      have HK := Lib.hid hlt
      have e1 : At (w0.alloc (.cells #[.int .i64 a, .int .i64 b', .int .i64 xc] 28)) w0.heap.size 28 (ev ((a : Int), (b' : Int), xc)) := At.new _ _ _
      have k1 : Keeps w (w0.alloc (.cells #[.int .i64 a, .int .i64 b', .int .i64 xc] 28)) := Keeps.alloc hb _
      have qk : IntKind.i64.wrap ((k : Int) + 1) = (k : Int) + 1 := IntWalk.i64_in _ (by omega)
      clear hs2 hlt hwg hk hx
      generalize valL s (l.take k) = S at *
      go_upto_region 5 with (fail)
      generalize (w0.alloc (.cells #[.int .i64 a, .int .i64 b', .int .i64 xc] 28)) = w1 at *
      cases ht : (hs s a != hs s b')
      · rw [ht] at cc HS hw
        rw [if_neg (by simp)] at HS
        clear ht hw
        go_wp2_with (first
          | (refine wpList_load_row rfl 28 _ rfl _ rfl 28 _ _ _ e1 Try.underlying28 rfl (sizeE _) ?_)
          | (go_at_call 43; refine (cc _).mono ?_; rintro e w2 ⟨rfl, b2⟩; have k2 := Keeps.next k1 b2))
        go_roundw
        case rel => exact ⟨k + 1, HK.out, by go_num, by rw [HS.out, Int.add_zero], k2⟩
        case measure => have := HK.out; simp [intOf]; omega
      · rw [ht] at cc HS hw
        rw [if_pos rfl] at HS hw
        have q1 : IntKind.i64.wrap (S + xc) = S + xc := IntWalk.i64_in _ (by omega)
        clear ht hw
        go_wp2_with (first
          | (refine wpList_load_row rfl 28 _ rfl _ rfl 28 _ _ _ e1 Try.underlying28 rfl (sizeE _) ?_)
          | (go_at_call 43; refine (cc _).mono ?_; rintro e w2 ⟨rfl, b2⟩; have k2 := Keeps.next k1 b2; obtain ⟨p1, p2, p3⟩ := cells_ev (e1.later b2)))
        go_roundw
        case rel => exact ⟨k + 1, HK.out, by go_num, by rw [HS.out], k2⟩
        case measure => have := HK.out; simp [intOf]; omega
    · obtain rfl : k = l.length := by omega
      rw [List.take_length]
      have hkI : decide ((l.length : Int) < (l.length : Int)) = false := by simp
      go_wp2_with fail
      go_ret
      exact ⟨rfl, hb⟩
end Go.Proofs.Ytngonghgkeobhaa
