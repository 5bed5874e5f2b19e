/- The law's mod and side. -/
import Derived.Test.YtngonghgkeobhaaEa
namespace Go.Proofs.Ytngonghgkeobhaa
open Go.RowKit Go.Shelf
set_option linter.unusedVariables false
set_option linter.unusedSimpArgs false

def modN (x n : Int) : Int := (x % 18446744073709551616) % n
theorem mod_eq (x n : Int) (h1 : 1 ≤ n) (h2 : n ≤ 1099511627776) : wrap64 ((IntKind.u64.wrap x).tmod n) = modN x n := by
  have hw : IntKind.u64.wrap x = x % 18446744073709551616 := by simp [IntKind.wrap, IntKind.signed, IntKind.bits]
  have h0 : 0 ≤ x % 18446744073709551616 := Int.emod_nonneg _ (by omega)
  have h3 : (x % 18446744073709551616).tmod n = modN x n := by rw [modN, Int.tmod_eq_emod_of_nonneg h0]
  have h4 : 0 ≤ modN x n := Int.emod_nonneg _ (by omega)
  have h5 : modN x n < n := Int.emod_lt_of_pos _ (by omega)
  rw [hw, h3]
  simp only [wrap64]
  omega
theorem modN_in (x n : Int) (h1 : 1 ≤ n) : 0 ≤ modN x n ∧ modN x n < n := ⟨Int.emod_nonneg _ (by omega), Int.emod_lt_of_pos _ (by omega)⟩
set_option maxHeartbeats 400000 in
theorem mod_c (x n : Int) (hx : (Lit.int .i64 x).wf = true) (h1 : 1 ≤ n) (h2 : n ≤ 1099511627776) (w : World) :
    Calls Try.prog 25 #[.int .i64 x, .int .i64 n] w fun e w' => e = .returned (.int .i64 (modN x n)) ∧ w = w' := by
  go_enter Try.func25, Try.ntmps25
  go_wp2_with fail
  go_ret
  exact ⟨ret_int (mod_eq x n h1 h2), rfl⟩
/-- The characters of the side that is made from a number. -/
def sdC (m k : Nat) : UInt8 := if m / 2 ^ k % 2 = 1 then 49 else 48
def sdT (m d : Nat) : List UInt8 := (List.range d).map (sdC m)
def sdN (x : Int) (d : Nat) : Nat := rdS (sdT (modN x 4096).toNat d) d
theorem sdT_length (m d : Nat) : (sdT m d).length = d := by simp [sdT]
theorem sdT_ok (m d : Nat) : (sdT m d).all okC = true := by
  refine List.all_eq_true.2 fun x hx => ?_
  obtain ⟨k, _, rfl⟩ := List.mem_map.1 hx
  unfold sdC; split <;> decide
theorem sdN_lt (x : Int) (d : Nat) : sdN x d < 65536 := rdS_lt _ _
theorem infoB1 : (Try.prog.info? 5).map (fun i => (i.zero, i.size, i.bytes)) = some (some (.int .u8 0), 1, 1) := by kernel_rfl
set_option maxHeartbeats 4000000 in
set_option maxRecDepth 100000 in
theorem side_c (x : Int) (d : Nat) (hd1 : 1 ≤ d) (hd : d ≤ 12) (hx : (Lit.int .i64 x).wf = true) (w : World) :
    Calls Try.prog 11 #[.int .i64 x, .int .i64 d] w fun e w' => e = .returned (.string (TX (sdN x d) d)) ∧ Keeps w w' := by
  obtain ⟨i0, hi, hz0, hz1, hz2⟩ := info_parts8 infoB1
  have hmod := fun X => mod_c x 4096 hx (by decide) (by decide) X
  have Hres := Lib.hid (show (⟨(sdT (modN x 4096).toNat d).toArray⟩ : ByteArray) = TX (sdN x d) d from
    side_TX _ d hd (by show (sdT (modN x 4096).toNat d).toArray.size = d; simp [sdT]) (by show (sdT (modN x 4096).toNat d).all okC = true; exact sdT_ok _ _))
  obtain ⟨m0, m1⟩ := modN_in x 4096 (by decide)
  obtain ⟨m, hm⟩ := Int.eq_ofNat_of_zero_le m0
  rw [hm] at hmod m1
  rw [show (modN x 4096).toNat = m by omega] at Hres
  clear hm m0
  go_enter Try.func11, Try.ntmps11
  go_wp2_with fail
  go_loopw [5, 6] (fun u i wr => ∃ k : Nat, k ≤ d ∧ i = .int .i64 k ∧ wr.ownsRow w.heap.size 5 1 u k (bytes ((sdT m d).take k)) ∧ Keeps w wr) (fun _ i _ => d - (intOf i).toNat)
  case atStart => exact ⟨0, Nat.zero_le _, rfl, World.ownsRow_nil _ _ _ _, Below.refl _ _⟩
  case round =>
    obtain ⟨k, hk, rfl, hown, hb⟩ := hrel
    by_cases hlt : k < d
    · have hval : wrap64 (48 + ((m : Int) / 2 ^ k).tmod 2) % 256 = ((sdC m k).toNat : Int) := by
        have e1 : ((m : Int) / 2 ^ k).tmod 2 = ((m / 2 ^ k % 2 : Nat) : Int) := by
          rw [show ((m : Int) / 2 ^ k) = ((m / 2 ^ k : Nat) : Int) by push_cast; rfl, Int.tmod_eq_emod_of_nonneg (Int.natCast_nonneg _)]; omega
        rw [e1]
        unfold sdC
        rcases Nat.mod_two_eq_zero_or_one (m / 2 ^ k) with h | h <;> rw [h] <;> simp [wrap64]
      have hsn : bytes ((sdT m d).take (k + 1)) = bytes ((sdT m d).take k) ++ [.int .u8 ((sdC m k).toNat : Int)] := by
        rw [take_at _ k (sdC m k) (by simp [sdT, hlt])]
        simp [bytes]
      have Hsn := Lib.hid hsn
      have B1 : k + 1 ≤ maxLen := by unfold maxLen; omega
      have B2 : (k + 1) * 1 ≤ 140737488355328 := by omega
      have hbs := own_base hown
      have hsw := hb.size
      obtain ⟨ys, hys⟩ : ∃ ys, bytes ((sdT m d).take k) = ys := ⟨_, rfl⟩
      rw [hys] at hown hsn Hsn
      obtain ⟨ch, hch⟩ : ∃ ch : Int, ((sdC m k).toNat : Int) = ch := ⟨_, rfl⟩
      rw [hch] at hval Hsn
      clear hsn hys hch
      go_wp2_with (first
        | (go_at_call 25; refine (hmod _).mono ?_; rintro e w1 ⟨rfl, rfl⟩)
        | (at_builtin; refine wpList_append_own_at _ rfl (.tmp 12) (.tmp 20) 57 rfl w.heap.size 5 i0 (.int .u8 0) 1 1 Try.underlying57 hi hz0 hz1 hz2 rfl (by decide) _ k ys rfl (own_later hown (Keeps.alloc (Below.refl _ _) _)) _ 1 1 [.int .u8 ch] rfl rfl (new_cells _ _ _ _ rfl) (by simp [Value.oneCell']) B1 B2 (by simp; omega) ?_; intro v9 w9 hown9 hgrow9 _ hl9))
      have k9 : Keeps w w9 := (Keeps.alloc hb _).grown hgrow9 (by simp; omega) (fun r hr => hbs r hr)
      obtain ⟨g9, cap9, rfl, _⟩ := own_form hown9 (by omega)
      go_roundw
      case rel => exact ⟨k + 1, by omega, by go_num, by rw [Hsn.out]; exact hown9, k9⟩
      case measure => simp [intOf]; omega
    · obtain rfl : k = d := by omega
      obtain ⟨g, cap, rfl, _, _, _, _, hcs⟩ := own_form hown (by omega)
      rw [List.take_of_length_le (by rw [sdT_length]; omega)] at hcs
      have cv : (convert 57 9 (.slice (some ⟨g, 0, none⟩) k cap)).run Try.prog wr = .ok (.string ⟨(sdT m k).toArray⟩) wr := by
        have := run_convert_bytes_back (P := Try.prog) wr 57 9 5 ⟨g, 0, none⟩ cap (sdT m k) Try.underlying57 Try.underlying5 Try.underlying9 (fun j hj => by
          rw [show (⟨g, 0, none⟩ : Addr).add j = ⟨g, j, none⟩ from by unfold Addr.add; split <;> simp_all]
          exact hcs j _ (by unfold bytes; rw [List.getElem?_map, List.getElem?_eq_getElem hj]; rfl))
        rw [sdT_length] at this
        exact this
      clear hcs hown
      go_wp2_with fail
      go_ret
      exact ⟨by rw [← Hres.out]; rfl, hb⟩
end Go.Proofs.Ytngonghgkeobhaa
