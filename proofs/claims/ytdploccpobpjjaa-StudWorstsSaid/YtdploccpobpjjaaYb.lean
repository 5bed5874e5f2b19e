/- slices.Insert at the beginning of a row of one's own. -/
import Derived.Test.YtdploccpobpjjaaYa
import Derived.Test.YtdploccpobpjjaaYl
import Derived.Shelf.Spec.SlicesInsert
import Derived.Shelf.Spec.SlicesInsertGrow
namespace Go.Proofs.Ytdploccpobpjjaa
open Go.RowKit Go.Shelf
set_option linter.unusedVariables false
set_option linter.unusedSimpArgs false

set_option maxHeartbeats 1000000 in
set_option maxRecDepth 100000 in
/-- slices.Clone makes a row of its own. -/
theorem clone_w (v0 : Value) (L : List Int) (h1 : 1 ≤ L.length) (h2 : L.length ≤ 1000) (w : World) (hv : RdI w v0 L) :
    Calls Try.prog 31 #[v0] w fun e w' => ∃ v, e = .returned v ∧ w'.ownsRow w.heap.size 3 1 v L.length (L.map (Value.int .i64)) ∧ Keeps w w' := by
  obtain ⟨A, c0, rfl, hm, hcs⟩ := id hv
  obtain ⟨b0, o0, u0, rfl, _, _⟩ := hcs 0 (by omega)
  obtain ⟨i0, hi, hz0, hz1, hz2⟩ := info_parts infoI
  have Hown : Hid ((w.alloc (.cells #[] 3)).ownsRow w.heap.size 3 1 (.slice (some ⟨w.heap.size, 0, none⟩) 0 0) 0 []) :=
    Lib.hid ⟨rfl, .inr ⟨w.heap.size, 0, #[], rfl, Nat.le_refl _, At.new w 3 #[], Nat.le_refl _, Nat.zero_le _, rfl, rfl⟩⟩
  have Hcell : Hid (∀ j u, (L.map (Value.int .i64))[j]? = some u → (w.alloc (.cells #[] 3)).cell? ((⟨b0, o0, none⟩ : Addr).add j) = some u) := Lib.hid (by
    intro j u hu
    have hj := (List.getElem?_eq_some_iff.1 hu).1
    rw [List.length_map] at hj
    obtain ⟨b', o', x, e1, e2, rfl⟩ := hcs j hj
    cases e1
    rw [show ((⟨b0, o0, none⟩ : Addr).add j) = ⟨b0, o0 + j, none⟩ from by unfold Addr.add; split <;> simp_all, cell_keep e2 (Keeps.alloc (Below.refl _ _) _), ← hu]
    simp [nth, hj])
  have Hlen : Hid ((L.map (Value.int .i64)).length = L.length * 1) := Lib.hid (by simp)
  have hnil : ∀ W, (binOp .eql 22 (.slice (some ⟨b0, o0, none⟩) L.length c0) (.slice none 0 0)).run Try.prog W = .ok (.bool false) W := fun W => by kernel_rfl
  clear hcs hm hv
  go_enter Try.func31, Try.ntmps31
  go_wp2_with (at_builtin; refine wpList_append_own _ rfl _ _ 22 rfl w.heap.size 3 i0 _ 1 8 Try.underlying22 hi hz0 hz1 hz2 rfl (by decide) _ 0 [] rfl Hown.out ⟨b0, o0, none⟩ L.length c0 (L.map (Value.int .i64)) rfl Hlen.out Hcell.out (fun u hu => by obtain ⟨x, _, rfl⟩ := List.mem_map.1 hu; rfl) (by unfold maxLen; omega) (by omega) (by simp) ?_; intro v' w4 hown4 hgrow4 _)
  go_ret
  rw [Nat.zero_add, List.nil_append] at hown4
  exact ⟨_, rfl, hown4, (Keeps.alloc (Below.refl _ _) _).grown hgrow4 (by simp) (fun r hr => own_base Hown.out r hr)⟩
theorem setCells_holds {K : Nat → Prop} {a : World} (b : Nat) (hb : ¬ K b) : ∀ (vs : List Value) (o : Nat) (w : World), Holds K a w → Holds K a (w.setCells b o vs)
  | [], _, _, h => h
  | v :: vs, o, w, h => setCells_holds b hb vs (o + 1) _ (h.set ⟨b, o, none⟩ hb v)
theorem setCells_size (b : Nat) : ∀ (vs : List Value) (o : Nat) (w : World), (w.setCells b o vs).heap.size = w.heap.size
  | [], _, _ => rfl
  | v :: vs, o, w => by rw [World.setCells, setCells_size b vs]; simp [World.setCell]
/-- A row with a new first element, written behind its old first one: cells. -/
theorem insert_cells (b : Nat) (x : Int) (L : List Int) (w : World) (h : ∀ j, j < L.length + 1 → (w.cell? ⟨b, j, none⟩).isSome = true) :
    ∀ j, j < L.length + 1 → ((w.setCells b 1 (L.map (Value.int .i64))).setCells b 0 [.int .i64 x]).cell? ⟨b, j, none⟩ = some (.int .i64 (nth (x :: L) j)) := by
  intro j hj
  have h1 : ∀ k, k < (L.map (Value.int .i64)).length → (w.cell? ⟨b, 1 + k, none⟩).isSome = true := fun k hk => h _ (by rw [List.length_map] at hk; omega)
  rcases Nat.eq_zero_or_pos j with rfl | h0
  · have := World.cell?_setCells_in b [Value.int .i64 x] 0 (w.setCells b 1 (L.map (Value.int .i64))) (fun k hk => by
      have hk0 : k = 0 := by simpa using hk
      subst hk0
      rw [World.cell?_setCells_out b _ 1 w ⟨b, 0 + 0, none⟩ (fun _ _ => .inl (by simp))]
      exact h 0 (by omega)) 0 (by simp)
    simpa [nth] using this
  · rw [World.cell?_setCells_out b _ 0 _ ⟨b, j, none⟩ (fun _ _ => .inr (by simp; omega))]
    have := World.cell?_setCells_in b (L.map (Value.int .i64)) 1 w h1 (j - 1) (by rw [List.length_map]; omega)
    rw [show 1 + (j - 1) = j by omega] at this
    rw [this]
    obtain ⟨i, rfl⟩ : ∃ i, j = i + 1 := ⟨j - 1, by omega⟩
    simp [nth, show i < L.length by omega]
theorem own_shape {w : World} {g base cap n : Nat} {e : TypeId} {xs : List Value} (h : w.ownsRow base e 1 (.slice (some ⟨g, 0, none⟩) n cap) n xs) (hn : 0 < n) : ∃ cur : Array Value, At w g e cur ∧ base ≤ g ∧ n ≤ cap ∧ cap ≤ maxLen ∧ cur.size = cap ∧ ∀ (j : Nat) (u : Value), xs[j]? = some u → cur[j]? = some u := by
  rcases h.2 with ⟨hv, h0⟩ | ⟨g', cap', cur, hv, hb, hg, h1, h2, h3, h4⟩
  · omega
  · cases hv
    refine ⟨cur, hg, hb, h1, h2, by rw [h3, Nat.mul_one], fun j u hu => ?_⟩
    rw [← h4, List.getElem?_take] at hu
    split at hu
    · simpa using hu
    · cases hu
set_option maxHeartbeats 1000000 in
/-- Insert at the place 0. -/
theorem insert_c (base g c : Nat) (L : List Int) (x : Int) (vb : Nat) (h1 : 1 ≤ L.length) (h16 : L.length ≤ 16) (w : World) (hown : w.ownsRow base 3 1 (.slice (some ⟨g, 0, none⟩) L.length c) L.length (L.map (Value.int .i64))) (hvb : At w vb 3 #[.int .i64 x]) (hne : vb ≠ g) :
    Calls Try.prog 32 #[.slice (some ⟨g, 0, none⟩) L.length c, .int .i64 0, .slice (some ⟨vb, 0, none⟩) 1 1] w fun e w' => ∃ b c', e = .returned (.slice (some ⟨b, 0, none⟩) (L.length + 1) c') ∧ L.length + 1 ≤ c' ∧ RdI w' (.slice (some ⟨b, 0, none⟩) (L.length + 1) c') (x :: L) ∧ Holds (fun r => r ≠ g) w w' := by
  obtain ⟨cur, hat, hgb, hc1, hc2, hcs, hcu⟩ := own_shape hown (by omega)
  have hcell : ∀ j, j < L.length → w.cell? ⟨g, j, none⟩ = some (.int .i64 (nth L j)) := fun j hj => by
    rw [hat.cell j]
    exact hcu j _ (by simp [nth, hj])
  have hx0 : w.cell? ⟨vb, 0, none⟩ = some (.int .i64 x) := hvb.cell 0
  have hvs : ∀ (j : Nat) (v : Value), [Value.int .i64 x][j]? = some v → w.cell? ⟨vb, 0 + j, none⟩ = some v := fun j v hv => by
    have hj := (List.getElem?_eq_some_iff.1 hv).1
    have hj0 : j = 0 := by simpa using hj
    subst hj0
    rw [← hv]; exact hx0
  have hcsl : ∀ (j : Nat) (v : Value), (L.map (Value.int .i64))[j]? = some v → w.cell? ⟨g, 0 + j, none⟩ = some v := fun j v hv => by
    have hj := (List.getElem?_eq_some_iff.1 hv).1
    rw [List.length_map] at hj
    rw [Nat.zero_add, hcell j hj, ← hv]
    simp [nth, hj]
  have h1c : ∀ v ∈ L.map (Value.int .i64), v.oneCell' = true := fun v hv => by obtain ⟨y, _, rfl⟩ := List.mem_map.1 hv; rfl
  have h1v : ∀ v ∈ [Value.int .i64 x], v.oneCell' = true := fun v hv => by simp only [List.mem_singleton] at hv; subst hv; rfl
  unfold maxLen at hc2
  by_cases hroom : L.length + 1 ≤ c
  · have hsome : ∀ j, j < L.length + 1 → (w.cell? ⟨g, j, none⟩).isSome = true := fun j hj => by
      rw [hat.cell j, Array.getElem?_eq_getElem (by omega)]; rfl
    have := Any2.slices_Insert_int_shift Try.insA g 0 L.length c 0 vb 0 1 1 (L.map (Value.int .i64)) [.int .i64 x] w (by omega) (by omega) hroom (by omega) hne (by simp) rfl hcsl (fun j hj => by rw [Nat.zero_add]; exact hsome j hj) (fun j _ => by rw [Nat.zero_add]; exact hat.frozen j) hvs h1c h1v
      3 3 1 c (by unfold World.shape?; rw [show w.heap[vb]? = _ from hvb]; rfl) (by unfold World.shape?; rw [show w.heap[g]? = _ from hat]; simp [hcs]) (by omega) (hvb.frozen 0) (hvb.frozen 1)
    refine this.mono ?_
    rintro e w' ⟨rfl, rfl⟩
    refine ⟨g, c, rfl, hroom, ⟨_, c, rfl, by unfold maxLen; simp; omega, fun k hk => ?_⟩, setCells_holds g (by simp) _ _ _ (setCells_holds g (by simp) _ _ _ (Holds.drew (Holds.refl _ w)))⟩
    refine ⟨g, 0, _, rfl, ?_, rfl⟩
    have e := insert_cells g x L w.drew hsome k (by simpa using hk)
    simp only [Nat.zero_add, Nat.add_zero, List.drop_zero]
    exact e
  · have hlt : c < L.length + 1 := by omega
    have := Any2.slices_Insert_int_grow Try.insA g 0 L.length c 0 vb 0 1 1 (L.map (Value.int .i64)) [.int .i64 x] w (by omega) (by omega) hc1 hlt (by omega) (by simp) rfl hcsl hvs h1c h1v
    have ht : Try.insA_ren.t 3 = 3 := rfl
    rw [ht] at this
    refine this.mono ?_
    rintro e w' ⟨rfl, rfl⟩
    have hge := grownCap_ge w (L.length + 1) c 3
    have hle := grownCap_le_maxLen w (L.length + 1) c 3 (by unfold maxLen; omega)
    obtain ⟨cells, hcells⟩ : ∃ cells : Array Value, (((L.map (Value.int .i64)).take 0).toArray ++ Builtin.zeroCells (Value.int .i64 0).cells (L.length + 1 - 0) ++ Builtin.zeroCells (Value.int .i64 0).cells (grownCap w (L.length + 1) c 3 - (L.length + 1))) = cells := ⟨_, rfl⟩
    have hsz : L.length + 1 ≤ cells.size := by rw [← hcells]; simp only [Array.size_append, size_zeroCells, show (Value.int .i64 0).cells.size = 1 from rfl]; simp only [Nat.mul_one]; omega
    obtain ⟨W, hW⟩ : ∃ W, w.alloc (.cells cells 3) = W := ⟨_, rfl⟩
    have hWn : At W w.heap.size 3 cells := by rw [← hW]; exact At.new _ _ _
    have hsome : ∀ j, j < L.length + 1 → (W.cell? ⟨w.heap.size, j, none⟩).isSome = true := fun j hj => by
      rw [hWn.cell j, Array.getElem?_eq_getElem (by omega)]; rfl
    have hK : Keeps w W := by rw [← hW]; exact Keeps.alloc (Below.refl _ _) _
    refine ⟨w.heap.size, _, rfl, hge, ⟨_, _, rfl, by unfold maxLen; simp; omega, fun k hk => ⟨w.heap.size, 0, _, rfl, ?_, rfl⟩⟩, ?_⟩
    · rw [hcells, hW]
      simp only [Nat.zero_add]
      have hk2 : k < L.length + 1 := by simpa using hk
      rcases Nat.eq_zero_or_pos k with rfl | h0
      · rw [World.cell?_setCells_out _ _ _ _ _ (fun _ _ => .inl (by simp))]
        have := World.cell?_setCells_in w.heap.size [Value.int .i64 x] 0 W.drew (fun j hj => by
          have hj0 : j = 0 := by simpa using hj
          subst hj0
          exact hsome 0 (by omega)) 0 (by simp)
        simpa [nth] using this
      · have := World.cell?_setCells_in w.heap.size ((L.map (Value.int .i64)).drop 0) (0 + 1) ((W.drew.setCells w.heap.size 0 [Value.int .i64 x]).drew) (fun j hj => by
          rw [List.drop_zero, List.length_map] at hj
          show ((W.drew.setCells w.heap.size 0 [Value.int .i64 x]).cell? _).isSome = true
          rw [World.cell?_setCells_out _ _ _ _ _ (fun _ _ => .inr (by simp))]
          exact hsome _ (by omega)) (k - 1) (by simp; omega)
        simp only [Nat.zero_add, show 1 + (k - 1) = k by omega] at this
        rw [this]
        obtain ⟨i, rfl⟩ : ∃ i, k = i + 1 := ⟨k - 1, by omega⟩
        simp [nth, show i < L.length by omega]
    · rw [hcells, hW]
      have hK2 : Holds (fun r => r < w.heap.size) w W := Holds.of_below hK
      have h3 := setCells_holds (K := fun r => r < w.heap.size) (a := w) w.heap.size (by simp) ((L.map (Value.int .i64)).drop 0) (0 + 1) _ (Holds.drew (setCells_holds w.heap.size (by simp) [Value.int .i64 x] 0 _ (Holds.drew hK2)))
      exact h3.mono (fun r hr _ => hr)
end Go.Proofs.Ytdploccpobpjjaa
