/- The walks of send, keeps. -/
import Derived.Test.YtikedhkibdeheaaCd
namespace Go.Proofs.Ytikedhkibdeheaa
open Go.RowKit

theorem ib_c (c : UInt8) (w : World) : Calls Try.prog 74 #[.string ⟨#[97, 65, 98, 66]⟩, .int .u8 c.toNat] w fun e w' => e = .returned (.int .i64 (li c)) ∧ w' = w :=
  (Try.strings_IndexByte ⟨#[97, 65, 98, 66]⟩ c.toNat w).mono fun e w' h => by
    refine ⟨h.1.trans (ret_int ?_), h.2⟩
    rw [show ((c.toNat : Int).toNat.toUInt8) = c from by simp]
    exact indexByte_names c

set_option maxHeartbeats 1000000 in
set_option maxRecDepth 100000 in
theorem send_c (W : List Int) (hW : wok W) (s : Int) (hs : 0 ≤ s ∧ s < 5) (b : ByteArray) (hm : b.size ≤ maxLen) (hb : ∀ c ∈ b.data.toList, 0 ≤ li c) (w : World) :
    Calls Try.prog 59 #[.agg (ic W), .int .i64 s, .string b] w fun e w' => e = .returned (.int .i64 (snd W s b.data.toList)) ∧ Keeps w w' := by
  unfold maxLen at hm
  go_enter Try.func59, Try.ntmps59
  go_wp2_with fail
  go_loopw [1, 10] (fun x i wr => ∃ k : Nat, k ≤ b.size ∧ i = .int .i64 k ∧ x = .int .i64 (snd W s (b.data.toList.take k)) ∧ At wr w.heap.size 78 (ic W) ∧ Below w.heap.size w wr) (fun _ i _ => b.size - (intOf i).toNat)
  case atStart => exact ⟨0, Nat.zero_le _, rfl, rfl, At.new _ _ _, Keeps.alloc (Below.refl _ _) _⟩
  case round =>
    obtain ⟨k, hk, rfl, rfl, hbw, hbel⟩ := hrel
    by_cases hlt : k < b.size
    · have hin := snd_in W hW s hs (b.data.toList.take k) (fun c hc => hb c (List.mem_of_mem_take hc))
      have hck := hb b[k] (by show b.data[k] ∈ _; simp)
      have hsn := Lib.hid (snd_snoc W s b k hlt)
      generalize snd W s (b.data.toList.take k) = x at *
      obtain ⟨hx0, hx5⟩ := hin
      go_wp2_with fail
      go_still_tail 6, (by kernel_rfl)
      refine still_load_row rfl 78 _ rfl w.heap.size rfl 78 (ic W) _ hbw Try.underlying78 rfl (sizeW W hW.1) ?_
      repeat still_step
      still_call (ib_c b[k] wr.drew)
      refine wpStill_nil ?_
      change wpList _ _ _ _ _ wr.drew
      have hbd : Below w.heap.size w wr.drew := hbel.drew
      have hbw' : At wr.drew w.heap.size 78 (ic W) := hbw
      generalize wr.drew = w2 at *
      have hl3 := li_le b[k]
      go_wp2_with (go_at_call 50; refine (step_c W hW.1 x (li b[k]) hx0 hx5 hck (by omega) w2).mono ?_; rintro e w1 ⟨rfl, hb1⟩)
      go_roundw
      case rel => exact ⟨k + 1, by omega, by go_num, by rw [hsn.out]; rfl, hbw'.later hb1, Keeps.next hbd hb1⟩
      case measure => simp [intOf]; omega
    · go_wp2
      go_ret
      exact ⟨ret_int (by rw [List.take_of_length_le (by simp; omega)]), hbel⟩
end Go.Proofs.Ytikedhkibdeheaa
