/- The reference's Gains. -/
import Derived.Test.YtkecigfgggeleaaDf
import Derived.Test.YtkecigfgggeleaaDe
namespace Go.Proofs.Ytkecigfgggeleaa
open Go.RowKit Go.Shelf
set_option linter.unusedVariables false
set_option linter.unusedSimpArgs false

theorem infoI9 : (Try.prog.info? 3).map (fun i => (i.zero, i.size, i.bytes)) = some (some (.int .i64 0), 1, 8) := by kernel_rfl
def dgn (l : List Ed) (S : Nat) (i : Nat) : Int := valL (flp S i) l - valL S l
set_option maxHeartbeats 4000000 in
set_option maxRecDepth 100000 in
theorem rgains_c (v : Value) (l : List Ed) (s : ByteArray) (hl : edgesOk l) (hbl : below s.size l) (hs12 : s.size ≤ 12) (hok : s.data.toList.all okC = true) (w : World) (hv : RdE w v l) :
    Calls Try.prog 41 #[v, .string s] w fun e w' => ∃ u, e = .returned u ∧ RdI w' u ((List.range s.size).map (dgn l (rdS s.data.toList s.size))) ∧ Keeps w w' := by
  obtain ⟨i0, hi, hz0, hz1, hz2⟩ := info_parts infoI9
  have hva := fun X (hX : Keeps w X) => rvalue_c v l s hl hbl hs12 hok X (hv.below hX)
  have hS : ∀ j (hj : j < s.size), ∃ c : UInt8, (if s[j] = 48 then (⟨#[49]⟩ : ByteArray) else ⟨#[48]⟩) = ⟨#[c]⟩ ∧ ∀ X, Keeps w X → Calls Try.prog 28 #[v, .string (flipS s j ⟨#[c]⟩)] X fun e w' => e = .returned (.int .i64 (valL (flp (rdS s.data.toList s.size) j) l)) ∧ ∃ m, w' = X.drewN m := by
    intro j hj
    have e : s.data.toList[j]? = some s[j] := by rw [Array.getElem?_toList]; exact Array.getElem?_eq_getElem hj
    have ho : s[j] = 48 ∨ s[j] = 49 := by
      have := List.all_eq_true.1 hok _ (List.mem_of_getElem? e)
      simpa [okC] using this
    have key : ∀ c : UInt8, okC c = true → ((c = 49) ↔ ¬ (s.data.toList[j]? = some 49)) → ∀ X, Keeps w X → Calls Try.prog 28 #[v, .string (flipS s j ⟨#[c]⟩)] X fun e w' => e = .returned (.int .i64 (valL (flp (rdS s.data.toList s.size) j) l)) ∧ ∃ m, w' = X.drewN m := by
      intro c hc hci X hX
      have h1 := rvalue_c v l (flipS s j ⟨#[c]⟩) hl (by rw [flipS_size s j hj]; exact hbl) (by rw [flipS_size s j hj]; exact hs12) (flipS_ok s j hj c hc hok) X (hv.below hX)
      rw [valL_congr _ (flp (rdS s.data.toList s.size) j) l hl (flipS_hs s j hj hs12 c hci)] at h1
      exact h1
    rcases ho with h | h
    · exact ⟨49, by rw [if_pos h], key 49 (by decide) (by rw [e, h]; decide)⟩
    · exact ⟨48, by rw [if_neg (by rw [h]; decide)], key 48 (by decide) (by rw [e, h]; decide)⟩
  have hvb : ∀ T, -5000 ≤ valL T l ∧ valL T l ≤ 5000 := fun T => by
    have := valL_in T l hl l.length
    rwa [List.take_length] at this
  generalize rdS s.data.toList s.size = S at *
  have HS := Lib.hid hS
  clear hS hok
  go_enter Try.func41, Try.ntmps41
  go_wp2_with fail
  go_loopw [5, 6] (fun o i wr => ∃ k : Nat, k ≤ s.size ∧ i = .int .i64 k ∧ wr.ownsRow w.heap.size 3 1 o k (((List.range k).map (dgn l S)).map (Value.int .i64)) ∧ Keeps w wr) (fun _ i _ => s.size - (intOf i).toNat)
  case atStart => exact ⟨0, Nat.zero_le _, rfl, World.ownsRow_nil _ _ _ _, Below.refl _ _⟩
  case round =>
    obtain ⟨k, hk, rfl, hown, hb⟩ := hrel
    by_cases hlt : k < s.size
    · obtain ⟨c, hC, hvt⟩ := HS.out k hlt
      have hfl := fun X => rflip_c s k hlt hs12 X
      rw [hC] at hfl
      change ∀ X, Calls _ _ _ X (fun e w' => e = .returned (.string (flipS s k ⟨#[c]⟩)) ∧ ∃ m, w' = X.drewN m) at hfl
      generalize flipS s k ⟨#[c]⟩ = t at *
      have b1 := hvb (flp S k)
      have b2 := hvb S
      have Hd := Lib.hid (show dgn l S k = valL (flp S k) l - valL S l from rfl)
      have hwD : IntKind.i64.wrap (valL (flp S k) l - valL S l) = valL (flp S k) l - valL S l := IntWalk.i64_in _ (by omega)
      generalize valL (flp S k) l = VF at *
      generalize valL S l = VS at *
      have B1 : k + 1 ≤ maxLen := by unfold maxLen; omega
      have B2 : (k + 1) * 8 ≤ 140737488355328 := by omega
      have hbs := own_base hown
      have hsw := hb.size
      obtain ⟨ys, hys⟩ : ∃ ys, ((List.range k).map (dgn l S)).map (Value.int .i64) = ys := ⟨_, rfl⟩
      rw [hys] at hown
      have Hys := Lib.hid hys
      clear hC hys
      go_wp2_with (first
        | (go_at_call 20; refine (hfl _).mono ?_; rintro e w1 ⟨rfl, m1, rfl⟩)
        | (go_at_call 28; with_reducible refine (hvt _ (below_drewN hb)).mono ?_; rintro e w1 ⟨rfl, m2, rfl⟩)
        | (go_at_call 28; with_reducible refine (hva _ (below_drewN hb)).mono ?_; rintro e w1 ⟨rfl, m3, rfl⟩)
        | (at_builtin; refine wpList_append_own_at _ rfl (.tmp 13) (.tmp 23) 34 rfl w.heap.size 3 i0 (.int .i64 0) 1 8 Try.underlying34 hi hz0 hz1 hz2 rfl (by decide) _ k ys rfl (own_later hown (Keeps.alloc (below_drewN (Below.refl _ _)) _)) _ 1 1 [.int .i64 (VF - VS)] rfl rfl (new_cells _ _ _ _ rfl) (by simp [Value.oneCell']) B1 B2 (by simp; omega) ?_; intro v9 w9 hown9 hgrow9 _ hl9))
      have k9 : Keeps w w9 := (Keeps.alloc (below_drewN hb) _).grown hgrow9 (by simp; omega) (fun r hr => hbs r hr)
      obtain ⟨g9, cap9, rfl, _⟩ := own_form hown9 (by omega)
      go_roundw
      case rel =>
        refine ⟨k + 1, by omega, by go_num, ?_, k9⟩
        rw [List.range_succ, List.map_append, List.map_append, Hys.out, List.map_singleton, List.map_singleton, Hd.out]
        exact hown9
      case measure => simp [intOf]; omega
    · obtain rfl : k = s.size := by omega
      go_wp2_with fail
      go_ret
      refine ⟨_, rfl, ?_, hb⟩
      have := own_ints (l := (List.range s.size).map (dgn l S)) (by rw [List.length_map, List.length_range]; exact hown) (by rw [List.length_map, List.length_range]; unfold maxLen; omega)
      exact this.rd
end Go.Proofs.Ytkecigfgggeleaa
