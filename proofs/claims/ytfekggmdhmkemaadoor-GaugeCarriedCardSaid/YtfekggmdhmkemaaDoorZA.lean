/- Digits put into a text. -/
import Derived.Test.YtfekggmdhmkemaaDoorZy
import Derived.Test.YtfekggmdhmkemaaDoorUa
namespace Go.Proofs.YtfekggmdhmkemaaDoor
open Go.RowKit
set_option linter.unusedVariables false
set_option linter.unusedSimpArgs false

/-- The parts of the law's text of noughts and ones, with the point behind seven digits. -/
theorem law_prs7 (l : List UInt8) : ∃ F G : List UInt8, prs (txW l 7 2) = some (F, G) ∧ F.length ≤ 7 ∧ G.length ≤ 17 ∧ (txW l 7 2).length ≤ 25 := by
  have hN : txN l ≤ 24 := by unfold txN; omega
  unfold txW
  by_cases h0 : txN l = 0
  · rw [if_pos h0]
    exact ⟨[48], [], by decide, by simp, by simp, by simp⟩
  · rw [if_neg h0, txJ_form]
    by_cases h1 : txN l ≤ 7
    · rw [if_pos h1]
      have hl := dd_length l 2 0 (txN l)
      have hk := dd_ok l 2 0 (txN l) (.inl rfl)
      exact ⟨_, [], prs_one _ (fun c hc => (hk c hc).1) (by omega) (by omega), by omega, by simp, by omega⟩
    · rw [if_neg h1]
      have hl1 := dd_length l 2 0 7
      have hl2 := dd_length l 2 7 (txN l)
      have hk1 := dd_ok l 2 0 7 (.inl rfl)
      have hk2 := dd_ok l 2 7 (txN l) (.inl rfl)
      exact ⟨_, _, prs_two _ _ (fun c hc => (hk1 c hc).1) (fun c hc => (hk2 c hc).1) (by omega) (by omega) (by omega) (by omega), by omega, by omega, by rw [List.length_append, List.length_cons]; omega⟩
def ins (t I : List UInt8) (k : Nat) : List UInt8 := t.take k ++ (I ++ t.drop k)
theorem ins_len (t I : List UInt8) (k : Nat) : (ins t I k).length = t.length + I.length := by
  unfold ins
  rw [List.length_append, List.length_append, List.length_take, List.length_drop]
  omega
theorem ins_ok (t I : List UInt8) (k : Nat) (ht : ∀ c ∈ t, okD c) (hI : ∀ c ∈ I, okD c) : ∀ c ∈ ins t I k, okD c := by
  intro c hc
  unfold ins at hc
  rcases List.mem_append.1 hc with hc | hc
  · exact ht c (List.mem_of_mem_take hc)
  · rcases List.mem_append.1 hc with hc | hc
    · exact hI c hc
    · exact ht c (List.mem_of_mem_drop hc)
theorem ins_prs (t F G I : List UInt8) (k : Nat) (hk : k ≤ t.length) (h : prs t = some (F, G)) (hF : F.length ≤ 7) (hG : G.length ≤ 17) (hI : ∀ c ∈ I, okD c) (h1 : 1 ≤ I.length) (h4 : I.length ≤ 4) :
    (k ≤ F.length ∧ prs (ins t I k) = some (ins F I k, G)) ∨ (F.length < k ∧ prs (ins t I k) = some (F, ins G I (k - F.length - 1))) := by
  obtain ⟨kF, kG, f1, f2, g2, hl⟩ := prs_parts t F G h
  rcases hl with ⟨rfl, rfl⟩ | ⟨g1, rfl⟩
  · left
    refine ⟨hk, prs_one _ (ins_ok t I k kF hI) ?_ ?_⟩ <;> rw [ins_len] <;> omega
  · by_cases hkF : k ≤ F.length
    · left
      refine ⟨hkF, ?_⟩
      have e : ins (F ++ 46 :: G) I k = ins F I k ++ 46 :: G := by
        unfold ins
        rw [List.take_append_of_le_length hkF, List.drop_append_of_le_length hkF]
        simp
      rw [e]
      refine prs_two _ _ (ins_ok F I k kF hI) kG ?_ ?_ g1 g2 <;> rw [ins_len] <;> omega
    · right
      refine ⟨by omega, ?_⟩
      obtain ⟨j, rfl⟩ : ∃ j, k = F.length + 1 + j := ⟨k - F.length - 1, by omega⟩
      rw [show F.length + 1 + j - F.length - 1 = j by omega]
      have e : ins (F ++ 46 :: G) I (F.length + 1 + j) = F ++ 46 :: ins G I j := by
        unfold ins
        rw [show F.length + 1 + j = F.length + (j + 1) by omega, List.take_length_add_append, List.drop_length_add_append]
        simp
      rw [e]
      refine prs_two _ _ kF (ins_ok G I j kG hI) f1 f2 ?_ ?_ <;> rw [ins_len] <;> omega
theorem vsum_ins (t I J : List UInt8) (k : Nat) (e : Int) (s : Int × Int) (hl : I.length = J.length) (h : ∀ e s, vsum I e s = vsum J e s) : vsum (ins t I k) e s = vsum (ins t J k) e s := by
  unfold ins
  rw [vsum_app, vsum_app, vsum_app, vsum_app, h, hl]
theorem carry_one (e : Int) (s : Int × Int) : vsum [48, 49, 49] e s = vsum [49, 48, 48] e s := by
  have h := pw_next (e - 1 - 1)
  rw [show e - 1 - 1 + 2 = e by omega, show e - 1 - 1 + 1 = e - 1 by omega] at h
  have h1 : (pw e).1 = (pw (e - 1)).1 + (pw (e - 1 - 1)).1 := congrArg Prod.fst h
  have h2 : (pw e).2 = (pw (e - 1)).2 + (pw (e - 1 - 1)).2 := congrArg Prod.snd h
  simp only [vsum, plusG, timesG]
  rw [show ((48 : UInt8).toNat : Int) - 48 = 0 from rfl, show ((49 : UInt8).toNat : Int) - 48 = 1 from rfl]
  apply Prod.ext <;> simp only <;> omega
theorem carry_two (e : Int) (s : Int × Int) : vsum [48, 50, 48, 48] e s = vsum [49, 48, 48, 49] e s := by
  have h := pw_next (e - 1 - 1)
  rw [show e - 1 - 1 + 2 = e by omega, show e - 1 - 1 + 1 = e - 1 by omega] at h
  have g := pw_next (e - 1 - 1 - 1)
  rw [show e - 1 - 1 - 1 + 2 = e - 1 by omega, show e - 1 - 1 - 1 + 1 = e - 1 - 1 by omega] at g
  have h1 : (pw e).1 = (pw (e - 1)).1 + (pw (e - 1 - 1)).1 := congrArg Prod.fst h
  have h2 : (pw e).2 = (pw (e - 1)).2 + (pw (e - 1 - 1)).2 := congrArg Prod.snd h
  have g1 : (pw (e - 1)).1 = (pw (e - 1 - 1)).1 + (pw (e - 1 - 1 - 1)).1 := congrArg Prod.fst g
  have g2 : (pw (e - 1)).2 = (pw (e - 1 - 1)).2 + (pw (e - 1 - 1 - 1)).2 := congrArg Prod.snd g
  simp only [vsum, plusG, timesG]
  rw [show ((48 : UInt8).toNat : Int) - 48 = 0 from rfl, show ((49 : UInt8).toNat : Int) - 48 = 1 from rfl, show ((50 : UInt8).toNat : Int) - 48 = 2 from rfl]
  apply Prod.ext <;> simp only <;> omega
/-- Two texts that differ in such digits have one value, a number. -/
theorem ins_value (l : List UInt8) (I J : List UInt8) (k : Nat) (hk : k ≤ (txW l 7 2).length) (hl : I.length = J.length) (hI : ∀ c ∈ I, okD c) (hJ : ∀ c ∈ J, okD c) (h1 : 1 ≤ I.length) (h4 : I.length ≤ 4) (h : ∀ e s, vsum I e s = vsum J e s) :
    ∃ F G F2 G2 : List UInt8, prs (ins (txW l 7 2) I k) = some (F, G) ∧ prs (ins (txW l 7 2) J k) = some (F2, G2) ∧ valG (digL F G) = valG (digL F2 G2) ∧ sm2 400000 (valG (digL F G)) ∧ (ins (txW l 7 2) I k).length ≤ 30 ∧ (ins (txW l 7 2) J k).length ≤ 30 := by
  obtain ⟨F, G, hp, f7, g17, hlen⟩ := law_prs7 l
  have e1 := ins_prs _ F G I k hk hp f7 g17 hI h1 h4
  have e2 := ins_prs _ F G J k hk hp f7 g17 hJ (by omega) (by omega)
  have l1 := ins_len (txW l 7 2) I k
  have l2 := ins_len (txW l 7 2) J k
  rcases e1 with ⟨k1, e1⟩ | ⟨k1, e1⟩
  · rcases e2 with ⟨k2, e2⟩ | ⟨k2, e2⟩
    · have i1 := ins_len F I k
      have i2 := ins_len F J k
      refine ⟨_, _, _, _, e1, e2, ?_, val_in _ _ _ e1 (by omega) (by omega), by omega, by omega⟩
      obtain ⟨_, _, _, a2, b2, _⟩ := prs_parts _ _ _ e1
      obtain ⟨_, _, _, c2, d2, _⟩ := prs_parts _ _ _ e2
      rw [valG_parts _ _ a2 b2, valG_parts _ _ c2 d2, i1, i2, hl, vsum_ins F I J k _ _ hl h]
    · omega
  · rcases e2 with ⟨k2, e2⟩ | ⟨k2, e2⟩
    · omega
    · have i1 := ins_len G I (k - F.length - 1)
      have i2 := ins_len G J (k - F.length - 1)
      refine ⟨_, _, _, _, e1, e2, ?_, val_in _ _ _ e1 (by omega) (by omega), by omega, by omega⟩
      obtain ⟨_, _, _, a2, b2, _⟩ := prs_parts _ _ _ e1
      obtain ⟨_, _, _, c2, d2, _⟩ := prs_parts _ _ _ e2
      rw [valG_parts _ _ a2 b2, valG_parts _ _ c2 d2, vsum_ins G I J _ _ _ hl h]
/-- The pieces of a string, and their sum. -/
theorem ins_pieces (T : ByteArray) (I : List UInt8) (k : Nat) (hk : k ≤ T.size) (hI : I.length ≤ 4) (hT : T.size ≤ 100) : ∃ P1 P2 Q : ByteArray, T.extract 0 k = P1 ∧ T.extract k T.size = P2 ∧
    (∀ W, (Op.stringOp .add P1 ⟨I.toArray⟩).run Tryd.prog W = .ok (.string Q) W) ∧ (∀ W, (Op.stringOp .add Q P2).run Tryd.prog W = .ok (.string ⟨(ins T.data.toList I k).toArray⟩) W) ∧ P1.size ≤ 100 ∧ P2.size ≤ 100 ∧ Q.size ≤ 104 := by
  have hd : T.data.toList.length = T.size := Array.length_toList
  have e1 : T.extract 0 k = ⟨(T.data.toList.take k).toArray⟩ := by
    apply ByteArray.ext
    rw [ByteArray.data_extract]
    apply Array.ext'
    simp
  have e2 : T.extract k T.size = ⟨(T.data.toList.drop k).toArray⟩ := by
    apply ByteArray.ext
    rw [ByteArray.data_extract]
    apply Array.ext'
    show (T.data.extract k T.data.size).toList = _
    rw [Array.toList_extract, List.extract_eq_take_drop]
    apply List.take_of_length_le
    rw [List.length_drop]
    show T.data.toList.length - k ≤ T.size - k
    omega
  have app : ∀ a b : List UInt8, (⟨a.toArray⟩ : ByteArray) ++ (⟨b.toArray⟩ : ByteArray) = ⟨(a ++ b).toArray⟩ := fun a b => by
    apply ByteArray.ext
    rw [ByteArray.data_append]
    simp
  have z1 : (⟨(T.data.toList.take k).toArray⟩ : ByteArray).size ≤ 100 := by rw [arr_size, List.length_take]; omega
  have z2 : (⟨(T.data.toList.drop k).toArray⟩ : ByteArray).size ≤ 100 := by rw [arr_size, List.length_drop]; omega
  have z3 : (⟨(T.data.toList.take k ++ I).toArray⟩ : ByteArray).size ≤ 104 := by rw [arr_size, List.length_append, List.length_take]; omega
  refine ⟨_, _, ⟨(T.data.toList.take k ++ I).toArray⟩, e1, e2, fun W => ?_, fun W => ?_, z1, z2, z3⟩
  · have := run_string_add_sum (P := Tryd.prog) (w := W) ⟨(T.data.toList.take k).toArray⟩ ⟨I.toArray⟩ (by rw [arr_size] at *; have := arr_size I; omega)
    rw [app] at this
    exact this
  · have := run_string_add_sum (P := Tryd.prog) (w := W) ⟨(T.data.toList.take k ++ I).toArray⟩ ⟨(T.data.toList.drop k).toArray⟩ (by omega)
    rw [app, List.append_assoc] at this
    exact this
end Go.Proofs.YtfekggmdhmkemaaDoor
