/- The walk of divisors. -/
import Derived.Test.YtikedhkibdeheaaFb
import Derived.Test.YtikedhkibdeheaaCa
import Derived.Deep.QuietTactic
import Derived.BigQuiet
namespace Go.Proofs.Ytikedhkibdeheaa
open Go.RowKit

/-- A slice whose capacity is at least its length. -/
def Cap : Value → Prop | .slice _ n c => n ≤ c | _ => False
def small (rules : List ByteArray) : Prop := ∀ r ∈ rules, r.size ≤ 30
theorem cells2 {w : World} {b : Nat} {t : TypeId} {x y : Int} (h : At w b t (ic [x, y])) : w.cell? ⟨b, 0, none⟩ = some (.int .i64 x) ∧ w.cell? ⟨b, 1, none⟩ = some (.int .i64 y) := ⟨h.cell 0, h.cell 1⟩

set_option maxHeartbeats 4000000 in
set_option maxRecDepth 100000 in
theorem divisors_c (v : Value) (rules : List ByteArray) (hz : small rules) (w : World) (hv : RdS w v rules) (hcap : Cap v) :
    Calls Try.prog 39 #[v] w fun e w' => e = .returned (.tuple #[.int .i64 (dE rules), .int .i64 (dD rules rules.length)]) ∧ Keeps w w' := by
  obtain ⟨A, c, rfl, hm, hcs⟩ := id hv
  unfold maxLen at hm
  have hcap1 : rules.length ≤ c := hcap
  clear hcap
  go_enter Try.func39, Try.ntmps39
  go_wp2_with fail
  go_loopw [4, 5, 14] (fun a b i wr => ∃ k : Nat, k ≤ rules.length ∧ i = .int .i64 k ∧ a = .int .i64 (dE (rules.take k)) ∧ b = .int .i64 (dD rules k) ∧ (0 ≤ dE (rules.take k) ∧ dE (rules.take k) ≤ 30) ∧ (0 ≤ dD rules k ∧ dD rules k ≤ 1800) ∧ Keeps w wr) (fun _ _ i _ => rules.length - (intOf i).toNat)
  case atStart => exact ⟨0, Nat.zero_le _, rfl, rfl, rfl, by simp [dE], by simp [dD], Below.refl _ _⟩
  case round =>
    obtain ⟨k, hk, rfl, rfl, rfl, hE, hD, hb⟩ := hrel
    by_cases hlt : k < rules.length
    · obtain ⟨b0, off, u, rfl, hcell0, r, hrk, rfl⟩ := hcs k hlt
      have hcell := cell_keep hcell0 hb
      have hr30 := hz r (List.mem_of_getElem? hrk)
      obtain ⟨⟨a1, a2⟩, ⟨b1, b2⟩⟩ := ex_small r hr30
      have he := Lib.hid (dE_snoc rules k r hrk)
      have hd := Lib.hid (dD_snoc rules k r hrk)
      have Hrk := Lib.hid hrk
      have Hgle := Lib.hid (gcd_le (dE (rules.take k)) (exA r.data.toList) 30 (by omega) (by omega) (by omega) (by omega))
      obtain ⟨E1, E2⟩ := hE
      clear hrk hcell0
      generalize dE (rules.take k) = E at *
      go_wp2_with (first | (go_at_call 66; refine (exponents_c r (by unfold maxLen; omega) _).mono ?_; rintro e w1 ⟨rfl, hb1⟩) | (refine wpList_store_row rfl 38 _ _ rfl w1.heap.size _ rfl rfl 38 (ic [0, 0]) (At.new w1 38 (ic [0, 0])) (sizeE _ rfl) rfl (ic_one _) ?_))
      have hat : At ((w1.alloc (.cells #[.int .i64 0, .int .i64 0] 38)).setRow w1.heap.size (ic [exA r.data.toList, exB r.data.toList])) w1.heap.size 38 (ic [exA r.data.toList, exB r.data.toList]) := (At.new w1 38 (ic [0, 0])).row _
      obtain ⟨hA, hB⟩ := cells2 hat
      generalize hw2 : (w1.alloc (.cells #[.int .i64 0, .int .i64 0] 38)).setRow w1.heap.size (ic [exA r.data.toList, exB r.data.toList]) = w2 at *
      have hkc : k ≤ c := by omega
      go_quiet ((go_at_call 67; refine Calls.quiet_of (divisor_q _ _ (by first | omega | (have := Hgle.out; omega)) (by omega) _)))
      go_wp2_with fail
      have hbw2 : Keeps w (w2.drewN nq) := by
        subst hw2
        exact below_drewN (below_row (Keeps.alloc (Keeps.next hb hb1) _) (by have := hb.size; have := hb1.size; omega) _)
      have hat2 : At (w2.drewN nq) w1.heap.size 38 (ic [exA r.data.toList, exB r.data.toList]) := hat
      generalize w2.drewN nq = w3 at *
      clear hw2 hA hB hat
      have hDk := hD
      have hwlt : w.heap.size ≤ w1.heap.size := by have := hb.size; have := hb1.size; omega
      generalize w1.heap.size = g at *
      generalize dD rules k = D at *
      go_loopw [5, 32] (fun d i wj => ∃ j : Nat, j ≤ k ∧ i = .int .i64 j ∧ d = .int .i64 (dDi D r (rules.take j)) ∧ (0 ≤ dDi D r (rules.take j) ∧ dDi D r (rules.take j) ≤ 1800) ∧ At wj g 38 (ic [exA r.data.toList, exB r.data.toList]) ∧ Keeps w wj) (fun _ i _ => k - (intOf i).toNat)
      case atStart => exact ⟨0, Nat.zero_le _, rfl, rfl, by simpa [dDi] using hDk, hat2, hbw2⟩
      case round =>
        obtain ⟨j, hj, rfl, rfl, hDj, hatj, hbj⟩ := hrel
        by_cases hjl : j < k
        · obtain ⟨b1, off1, u1, he1, hcell1, q, hqk, rfl⟩ := hcs j (by omega)
          cases he1
          have hcj := cell_keep hcell1 hbj
          have hq30 := hz q (List.mem_of_getElem? hqk)
          obtain ⟨⟨c1, c2⟩, ⟨d1, d2⟩⟩ := ex_small q hq30
          have Hd := Lib.hid (dDi_snoc D r rules j q hqk)
          obtain ⟨m1, m2⟩ := mul_small (exA r.data.toList) (exB q.data.toList) a1 a2 d1 d2
          obtain ⟨m3, m4⟩ := mul_small (exB r.data.toList) (exA q.data.toList) b1 b2 c1 c2
          obtain ⟨D1, D2⟩ := hDj
          have Hgl := Lib.hid (gcd_le (dDi D r (rules.take j)) (det r q) 1800 (by omega) (by omega) (by unfold det; omega) (by unfold det; omega))
          have hjj : j < rules.length := by omega
          go_wp2_with (
            first
            | (go_at_call 66; refine (exponents_c q (by unfold maxLen; omega) _).mono ?_; rintro e w4 ⟨rfl, hb4⟩) 
            | (
              refine wpList_store_row rfl 38 _ _ rfl w4.heap.size _ rfl rfl 38 (ic [0, 0]) (At.new w4 38 (ic [0, 0])) (sizeE _ rfl) rfl (ic_one _) ?_
              have hg4 : g < w4.heap.size := Nat.lt_of_lt_of_le hatj.lt hb4.size
              have hat5 : At ((w4.alloc (.cells #[.int .i64 0, .int .i64 0] 38)).setRow w4.heap.size (ic [exA q.data.toList, exB q.data.toList])) w4.heap.size 38 (ic [exA q.data.toList, exB q.data.toList]) := (At.new w4 38 (ic [0, 0])).row _
              have hat6 : At ((w4.alloc (.cells #[.int .i64 0, .int .i64 0] 38)).setRow w4.heap.size (ic [exA q.data.toList, exB q.data.toList])) g 38 (ic [exA r.data.toList, exB r.data.toList]) := ((hatj.later hb4).alloc _).rowfar (by omega) _
              have hbw5 : Keeps w ((w4.alloc (.cells #[.int .i64 0, .int .i64 0] 38)).setRow w4.heap.size (ic [exA q.data.toList, exB q.data.toList])) := below_row (Keeps.alloc (Keeps.next hbj hb4) _) (by have := hbj.size; have := hb4.size; omega) _
              obtain ⟨hA5, hB5⟩ := cells2 hat5
              obtain ⟨hA6, hB6⟩ := cells2 hat6
              generalize (w4.alloc (.cells #[.int .i64 0, .int .i64 0] 38)).setRow w4.heap.size (ic [exA q.data.toList, exB q.data.toList]) = w5 at *
              clear hat5)
            | (go_at_call 67; refine (divisor_c _ _ (by omega) (by omega) _).mono ?_; rintro e w6 ⟨rfl, hb6⟩))
          go_roundw
          case rel => exact ⟨j + 1, by omega, by go_num, by rw [Hd.out]; rfl, by rw [Hd.out]; exact Hgl.out, hat6.later hb6, Keeps.next hbw5 hb6⟩
          case measure => simp [intOf]; omega
        · go_wp2_with fail
          have hjk : rules.take j = rules.take k := by congr 1; omega
          go_roundw
          case rel => exact ⟨k + 1, by omega, by go_num, by rw [he.out]; rfl, by rw [hd.out, hjk], by rw [he.out]; exact gcd_le _ _ 30 (by have := Hgle.out; omega) Hgle.out.2 b1 b2, by rw [hd.out, ← hjk]; exact hDj, hbj⟩
          case measure => simp [intOf]; omega
    · go_wp2_with fail
      have hkl : k = rules.length := by omega
      subst hkl
      rw [List.take_length]
      refine bodyPost_ret (results_tmp2 (t := 2) (u := 3) (by rfl) _ _ _) rfl ⟨rfl, hb⟩
end Go.Proofs.Ytikedhkibdeheaa
