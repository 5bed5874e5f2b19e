/- Odd cycles: the words, and the recursion. -/
import Derived.Test.YtngonghgkeobhaaBp
import Derived.BigRegionIn
namespace Go.Proofs.Ytngonghgkeobhaa
open Go.RowKit Go.Shelf
set_option linter.unusedVariables false
set_option linter.unusedSimpArgs false


set_option maxHeartbeats 1000000 in
theorem index_in (v : Value) (l : List Int) (x : Int) (w : World) (hv : RdI w v l) (hx : x ∈ l) :
    Calls Try.prog 72 #[v, .int .i64 x] w fun e w' => ∃ k : Nat, e = .returned (.int .i64 k) ∧ w = w' := by
  obtain ⟨A, c, rfl, hm, hcs⟩ := id hv
  unfold maxLen at hm
  have Hx := Lib.hid hx
  clear hx
  go_enter Try.func72, Try.ntmps72
  go_wp2_with fail
  go_loop [8] (fun i => ∃ k : Nat, k ≤ l.length ∧ i = .int .i64 k ∧ x ∉ l.take k) (fun i => l.length - (intOf i).toNat)
  case atStart => exact ⟨0, Nat.zero_le _, rfl, by simp⟩
  case round =>
    obtain ⟨k, hk, rfl, hno⟩ := hrel
    have Hno := Lib.hid hno
    clear hno
    by_cases hlt : k < l.length
    · obtain ⟨b0, off, u, rfl, hcell, rfl⟩ := hcs k hlt
      have ht := take_nth l k hlt
      have Ht := Lib.hid ht
      clear hcs ht
      by_cases he : x = nth l k
      · have hb : (x == nth l k) = true := by simp [he]
        clear he
        go_wp2_with fail
        go_ret
        exact ⟨⟨k, rfl⟩, rfl⟩
      · have hb : (x == nth l k) = false := by simp [he]
        have He := Lib.hid he
        clear he
        go_wp2_with fail
        go_round
        case rel => exact ⟨k + 1, by omega, by go_num, by rw [Ht.out]; simp [Hno.out, He.out]⟩
        case measure => simp [intOf]; omega
    · exfalso
      refine Hno.out ?_
      rw [List.take_of_length_le (by omega)]; exact Hx.out
set_option maxHeartbeats 1000000 in
theorem index_out (v : Value) (l : List Int) (x : Int) (w : World) (hv : RdI w v l) (hx : x ∉ l) :
    Calls Try.prog 72 #[v, .int .i64 x] w fun e w' => e = .returned (.int .i64 (-1)) ∧ w = w' := by
  obtain ⟨A, c, rfl, hm, hcs⟩ := id hv
  unfold maxLen at hm
  have Hx := Lib.hid hx
  clear hx
  go_enter Try.func72, Try.ntmps72
  go_wp2_with fail
  go_loop [8] (fun i => ∃ k : Nat, k ≤ l.length ∧ i = .int .i64 k) (fun i => l.length - (intOf i).toNat)
  case atStart => exact ⟨0, Nat.zero_le _, rfl⟩
  case round =>
    obtain ⟨k, hk, rfl⟩ := hrel
    by_cases hlt : k < l.length
    · obtain ⟨b0, off, u, rfl, hcell, rfl⟩ := hcs k hlt
      have hb : (x == nth l k) = false := by
        rw [beq_eq_false_iff_ne]; intro e; exact Hx.out (e ▸ nth_mem l k hlt)
      clear hcs
      go_wp2_with fail
      go_round
      case rel => exact ⟨k + 1, by omega, by go_num⟩
      case measure => simp [intOf]; omega
    · have hke : k = l.length := by omega
      have Hke := Lib.hid hke
      clear hke
      go_wp2_with fail
      go_ret
      exact ⟨rfl, rfl⟩
set_option maxHeartbeats 1000000 in
theorem contains_c (v : Value) (l : List Int) (x : Int) (w : World) (hv : RdI w v l) :
    Calls Try.prog 66 #[v, .int .i64 x] w fun e w' => e = .returned (.bool (decide (x ∈ l))) ∧ w = w' := by
  obtain ⟨A, c, rfl, hm, hcs⟩ := id hv
  by_cases hx : x ∈ l
  · have hi := index_in _ l x w hv hx
    have Hx := Lib.hid hx
    clear hx hcs
    go_enter Try.func66, Try.ntmps66
    go_wp2_with (go_at_call 72; refine hi.mono ?_; rintro e w1 ⟨k, rfl, rfl⟩; have hk0 : 0 ≤ (k : Int) := by omega)
    go_ret
    exact ⟨ret_bool (by simp [Hx.out]), rfl⟩
  · have hi := index_out _ l x w hv hx
    have Hx := Lib.hid hx
    clear hx hcs
    go_enter Try.func66, Try.ntmps66
    go_wp2_with (go_at_call 72; refine hi.mono ?_; rintro e w1 ⟨rfl, rfl⟩)
    go_ret
    exact ⟨ret_bool (by simp [Hx.out]), rfl⟩


/-- The joint of two vertices. -/
def jn (jt : List Int) (a b : Nat) : Nat := (nth jt (a * 12 + b)).toNat
def jok (jt : List Int) : Prop := jt.length = 144 ∧ ∀ i, i < 144 → ∃ m : Nat, nth jt i = m ∧ m < 2 ^ 64
theorem jn_at {jt : List Int} (h : jok jt) (a b : Nat) (ha : a < 12) (hb : b < 12) : nth jt (a * 12 + b) = (jn jt a b : Int) ∧ jn jt a b < 2 ^ 64 := by
  obtain ⟨m, h1, h2⟩ := h.2 (a * 12 + b) (by omega)
  unfold jn
  rw [h1, Int.toNat_natCast]
  exact ⟨rfl, h2⟩
def lsN (W : List Nat) : Nat := gN W (W.length - 1)
def okN (jt : List Int) (W : List Nat) (x : Nat) : Bool := decide (jn jt (lsN W) x ≠ 0) && !decide (x ∈ W)
def hdO (jt : List Int) (W : List Nat) (T : Nat) : List (List Nat × Nat) := if jn jt (lsN W) (gN W 0) ≠ 0 ∧ wrB W = true then [(W, T ||| jn jt (lsN W) (gN W 0))] else []
/-- The odd cycles that go on from a way. -/
def oc (n : Nat) (jt : List Int) (lg : Nat) : Nat → List Nat → Nat → List (List Nat × Nat)
  | 0, _, _ => []
  | f + 1, W, T => hdO jt W T ++ (if W.length = lg then [] else (List.range' (gN W 0 + 1) (n - (gN W 0 + 1))).flatMap fun x => if okN jt W x then oc n jt lg f (W ++ [x]) (T ||| jn jt (lsN W) x) else [])
def ocP (n : Nat) (jt : List Int) (lg f : Nat) (W : List Nat) (T s : Nat) : List (List Nat × Nat) := (List.range' (gN W 0 + 1) (s - (gN W 0 + 1))).flatMap fun x => if okN jt W x then oc n jt lg f (W ++ [x]) (T ||| jn jt (lsN W) x) else []
theorem oc_succ (n : Nat) (jt : List Int) (lg f : Nat) (W : List Nat) (T : Nat) : oc n jt lg (f + 1) W T = hdO jt W T ++ (if W.length = lg then [] else ocP n jt lg f W T n) := rfl
theorem ocP_zero (n : Nat) (jt : List Int) (lg f : Nat) (W : List Nat) (T : Nat) : ocP n jt lg f W T (gN W 0 + 1) = [] := by simp [ocP]
theorem ocP_succ (n : Nat) (jt : List Int) (lg f : Nat) (W : List Nat) (T s : Nat) (h : gN W 0 + 1 ≤ s) : ocP n jt lg f W T (s + 1) = ocP n jt lg f W T s ++ (if okN jt W s then oc n jt lg f (W ++ [s]) (T ||| jn jt (lsN W) s) else []) := by
  unfold ocP
  rw [show s + 1 - (gN W 0 + 1) = (s - (gN W 0 + 1)) + 1 by omega, List.range'_concat, List.flatMap_append, Nat.one_mul, show gN W 0 + 1 + (s - (gN W 0 + 1)) = s by omega, List.flatMap_singleton]
theorem ocP_prefix (n : Nat) (jt : List Int) (lg f : Nat) (W : List Nat) (T : Nat) : ∀ (m s : Nat), gN W 0 + 1 ≤ s → s ≤ m → ∃ t, ocP n jt lg f W T m = ocP n jt lg f W T s ++ t := by
  intro m
  induction m with
  | zero => intro s h1 h2; omega
  | succ m ih =>
    intro s h1 h2
    by_cases e : s = m + 1
    · exact ⟨[], by rw [e, List.append_nil]⟩
    · obtain ⟨t, ht⟩ := ih s h1 (by omega)
      exact ⟨t ++ (if okN jt W m then oc n jt lg f (W ++ [m]) (T ||| jn jt (lsN W) m) else []), by rw [ocP_succ _ _ _ _ _ _ _ (by omega), ht, List.append_assoc]⟩
def Lies {α : Type} (xs : List α) (k : Nat) (ys : List α) : Prop := ∀ (i : Nat) (x : α), ys[i]? = some x → xs[k + i]? = some x
theorem Lies.left {α : Type} {xs ys zs : List α} {k : Nat} (h : Lies xs k (ys ++ zs)) : Lies xs k ys := fun i x hx => h i x (by rw [List.getElem?_append_left (List.getElem?_eq_some_iff.1 hx).1]; exact hx)
theorem Lies.right {α : Type} {xs ys zs : List α} {k : Nat} (h : Lies xs k (ys ++ zs)) : Lies xs (k + ys.length) zs := fun i x hx => by
  have := h (ys.length + i) x (by rw [List.getElem?_append_right (by omega), show ys.length + i - ys.length = i by omega]; exact hx)
  rwa [← Nat.add_assoc] at this
theorem Lies.kid {n : Nat} {jt : List Int} {lg f : Nat} {W : List Nat} {T s k : Nat} {xs : List (List Nat × Nat)} (h : Lies xs k (ocP n jt lg f W T n)) (h1 : gN W 0 + 1 ≤ s) (hs : s < n) (hk : okN jt W s = true) :
    Lies xs (k + (ocP n jt lg f W T s).length) (oc n jt lg f (W ++ [s]) (T ||| jn jt (lsN W) s)) := by
  obtain ⟨t, ht⟩ := ocP_prefix n jt lg f W T n (s + 1) (by omega) (by omega)
  rw [ocP_succ _ _ _ _ _ _ _ h1, if_pos hk, List.append_assoc] at ht
  rw [ht] at h
  exact h.right.left
/-- A way: different vertices of the graph. -/
structure Way (n : Nat) (W : List Nat) : Prop where
  one : 1 ≤ W.length
  nd : W.Nodup
  lt : ∀ x ∈ W, x < n
theorem nats_len : ∀ (n : Nat) (l : List Nat), (∀ x ∈ l, x < n) → l.Nodup → l.length ≤ n
  | 0, [], _, _ => Nat.le_refl _
  | 0, a :: l, h, _ => by have := h a (by simp); omega
  | n + 1, l, h, hd => by
    by_cases hm : n ∈ l
    · have h1 := nats_len n (l.erase n) (fun x hx => by
        have h2 := (List.Nodup.mem_erase_iff hd).1 hx
        have := h x h2.2
        have := h2.1
        omega) (hd.erase _)
      rw [List.length_erase_of_mem hm] at h1
      omega
    · have := nats_len n l (fun x hx => by
        have := h x hx
        have : x ≠ n := fun e => hm (e ▸ hx)
        omega) hd
      omega
theorem Way.len {n : Nat} {W : List Nat} (h : Way n W) : W.length ≤ n := nats_len n W h.lt h.nd
theorem gN_mem (W : List Nat) (k : Nat) (h : k < W.length) : gN W k ∈ W := by simp [gN, h]
theorem Way.more {n : Nat} {W : List Nat} (h : Way n W) {x : Nat} (hx : x < n) (hn : x ∉ W) : Way n (W ++ [x]) := by
  refine ⟨by simp, ?_, fun y hy => ?_⟩
  · rw [List.nodup_append]
    exact ⟨h.nd, by simp, fun a ha b hb => by simp at hb; subst hb; exact fun e => hn (e ▸ ha)⟩
  · rcases List.mem_append.1 hy with hy | hy
    · exact h.lt y hy
    · have : y = x := by simpa using hy
      omega
theorem bits_or_64 (a b : Nat) (ha : a < 2 ^ 64) (hb : b < 2 ^ 64) : bits .or .u64 (a : Int) (b : Int) = ((a ||| b : Nat) : Int) := by
  have hx : a ||| b < 2 ^ 64 := Nat.or_lt_two_pow ha hb
  have h1 : (BitVec.ofInt 64 (a : Int)).toNat = a := by rw [BitVec.ofInt_natCast, BitVec.toNat_ofNat]; exact Nat.mod_eq_of_lt ha
  have h2 : (BitVec.ofInt 64 (b : Int)).toNat = b := by rw [BitVec.ofInt_natCast, BitVec.toNat_ofNat]; exact Nat.mod_eq_of_lt hb
  show IntKind.u64.wrap ((BitVec.ofInt 64 (a : Int) ||| BitVec.ofInt 64 (b : Int)).toNat : Int) = _
  rw [BitVec.toNat_or, h1, h2]
  have : ∀ x : Int, IntKind.u64.wrap x = x % 18446744073709551616 := fun x => by simp [IntKind.wrap, IntKind.signed, IntKind.bits]
  rw [this]
  omega
/-- What lies in memory while the cycles are visited. -/
structure OSt (B l n lg bg bl G : Nat) (V : Value) (jt : List Int) (X : World) : Prop where
  hg : At X bg 58 #[.pointer (some ⟨G, 0, none⟩)]
  hG : At X G 103 (gc n V jt)
  hy : At X B 111 #[.func (.yield l) #[] #[]]
  hl : At X bl 3 #[.int .i64 lg]
  he : At X (B + 1) 111 #[.func (.func 64) #[] #[.pointer (some ⟨bg, 0, none⟩), .pointer (some ⟨B, 0, none⟩), .pointer (some ⟨bl, 0, none⟩), .pointer (some ⟨B + 1, 0, none⟩)]]
theorem OSt.keep {B l n lg bg bl G : Nat} {V : Value} {jt : List Int} {X X' : World} {K M : Nat → Prop} (h : OSt B l n lg bg bl G V jt X) (hh : Holds (fun r => K r ∨ (B ≤ r ∧ ¬ M r)) X X') (hM : ∀ r, M r → B + 2 ≤ r ∧ r < X.heap.size) (k1 : K bg) (k2 : K G) (k3 : K bl) : OSt B l n lg bg bl G V jt X' := by
  have hn : ∀ i, i < 2 → ¬ M (B + i) := fun i hi h => by have := (hM _ h).1; omega
  exact ⟨h.hg.holds hh (.inl k1), h.hG.holds hh (.inl k2), h.hy.holds hh (.inr ⟨by omega, hn 0 (by omega)⟩), h.hl.holds hh (.inl k3), h.he.holds hh (.inr ⟨by omega, hn 1 (by omega)⟩)⟩
theorem OSt.later {B l n lg bg bl G : Nat} {V : Value} {jt : List Int} {X X' : World} (h : OSt B l n lg bg bl G V jt X) (hh : Keeps X X') : OSt B l n lg bg bl G V jt X' :=
  ⟨h.hg.later hh, h.hG.later hh, h.hy.later hh, h.hl.later hh, h.he.later hh⟩
def OEnd (B l n lg bg bl G : Nat) (V : Value) (jt : List Int) (K : Nat → Prop) (J Jx : Nat → (Nat → Prop) → World → Prop) (k : Nat) (M : Nat → Prop) (X : World) (e : Ending) (X' : World) : Prop :=
  ∃ M' : Nat → Prop, (∀ r, M' r → B + 2 ≤ r ∧ r < X'.heap.size) ∧ (∀ r, M' r → M r ∨ X.heap.size ≤ r) ∧ Holds (fun r => K r ∨ (B ≤ r ∧ ¬ M r)) X X' ∧ OSt B l n lg bg bl G V jt X' ∧
    ((e = .returned (.bool true) ∧ J k M' X') ∨ (e = .returned (.bool false) ∧ ∃ k', Jx k' M' X'))
theorem op_load_row {F : Fence} {n9 : Nat} {P : Program} {o : Oper} {a : Act} {w : World} {K9 : Act → World → Prop} {Q : Exit → Act → World → Prop} (ty : TypeId) (x : Operand) (ho : o.op = .load ty x)
    (g : Nat) (hx : a.eval x = .pointer (some ⟨g, 0, none⟩)) (t : TypeId) (cs : Array Value) (d : TypeDesc) (hg : At w g t cs)
    (hu : P.underlying ty = some d) (hd : (match d with | .struct _ | .array _ _ => true | _ => false) = true) (hi : (P.info? ty).map (·.size) = some cs.size)
    (h : K9 (a.put o.dst (.agg cs)) w) : o.wpIn F n9 P a w K9 Q := by
  unfold Oper.wpIn
  refine ⟨?_, ?_⟩
  · simp [Oper.about, ho]
  · rw [Oper.semAt_plain F _ _ (by rw [ho]; intro c hc'; cases hc')]
    simp only [execOp, ho, hx, Instr.loadAt, Instr.sureAddr, Sem.run_bind, Sem.run_pure, Result.andThen_ok, run_loadVar_row w g t ty cs (0, 0) d hg hu hd hi]
    exact h
variable {m l B n lg bg bl G : Nat} {V : Value} {jt : List Int} {K : Nat → Prop} {J Jx : Nat → (Nat → Prop) → World → Prop} {xs : List (List Nat × Nat)}
set_option maxHeartbeats 8000000 in
set_option maxRecDepth 100000 in
theorem ext_c (hn : n ≤ 12) (hjt : jok jt) (k1 : K bg) (k2 : K G) (k3 : K bl) (hKB : ∀ r, K r → r < B) (W0 : World) (hJ : ∀ k, Stable B (J k)) (hJx : ∀ k, Stable B (Jx k))
    (hY : ∀ k x M W1, xs[k]? = some x → J k M W1 → (∀ r, M r → B ≤ r ∧ r < W1.heap.size) → Holds K W0 W1 →
      YieldAt Fence.wide m Try.prog l #[.agg (ic (cyc x.1)), .int .u64 x.2] W1 (RoundOk B K J Jx k M W1)) :
    ∀ (f : Nat) (W : List Nat) (T k : Nat) (M : Nat → Prop) (X : World), n < W.length + f → Way n W → T < 2 ^ 64 → Lies xs k (oc n jt lg f W T) → J k M X → (∀ r, M r → B + 2 ≤ r ∧ r < X.heap.size) → Holds K W0 X → OSt B l n lg bg bl G V jt X →
    Calls Try.prog 64 #[.agg (ic (cyc W)), .int .u64 T, .pointer (some ⟨bg, 0, none⟩), .pointer (some ⟨B, 0, none⟩), .pointer (some ⟨bl, 0, none⟩), .pointer (some ⟨B + 1, 0, none⟩)] X
      (OEnd B l n lg bg bl G V jt K J Jx (k + (oc n jt lg f W T).length) M X) := by
  intro f
  induction f with
  | zero => intro W T k M X h hW; have := hW.len; omega
  | succ f ih =>
    intro W T k M X hf hW hT hlie hj hM hH hX
    have Hih := Lib.hid ih
    clear ih
    have hlen := hW.len
    have hone := hW.one
    rw [oc_succ] at hlie ⊢
    obtain ⟨R, hR⟩ : ∃ R, R = (if W.length = lg then [] else ocP n jt lg f W T n) := ⟨_, rfl⟩
    obtain ⟨D, hD⟩ : ∃ D, D = hdO jt W T := ⟨_, rfl⟩
    rw [← hR, ← hD] at hlie ⊢
    have HR := Lib.hid hR
    have HD := Lib.hid hD
    clear hR hD
    obtain ⟨a, ha⟩ : ∃ a, a = gN W 0 := ⟨_, rfl⟩
    obtain ⟨z, hz⟩ : ∃ z, z = lsN W := ⟨_, rfl⟩
    have han : a < n := by rw [ha]; exact hW.lt _ (gN_mem W 0 (by omega))
    have hzn : z < n := by rw [hz]; exact hW.lt _ (gN_mem W _ (by omega))
    obtain ⟨q, hq⟩ : ∃ q, W.length = q := ⟨_, rfl⟩
    have hX1 : OSt B l n lg bg bl G V jt (X.alloc (.cells (ic (cyc W)) 92)) := hX.later (Keeps.alloc (Below.refl _ _) _)
    have hw1 : At (X.alloc (.cells (ic (cyc W)) 92)) X.heap.size 92 (ic (cyc W)) := At.new _ _ _
    have hk1 : Keeps X (X.alloc (.cells (ic (cyc W)) 92)) := Keeps.alloc (Below.refl _ _) _
    have hcl := cyc_length W (by omega)
    have c0 := hw1.int 0 (by omega)
    rw [cyc_0, hq] at c0
    have ca := hw1.int 1 (by omega)
    rw [show (1 : Nat) = 1 + 0 from rfl, cyc_at W 0 (by omega), ← ha] at ca
    have cz := hw1.int (1 + (q - 1)) (by omega)
    rw [cyc_at W (q - 1) (by omega), ← hq] at cz
    have hzq : gN W (W.length - 1) = z := hz.symm
    rw [hzq, hq] at cz
    obtain ⟨j1, j2⟩ := jn_at hjt z a (by omega) (by omega)
    have hjl := hjt.1
    have cj : (X.alloc (.cells (ic (cyc W)) 92)).cell? ⟨G, 2 + z * 12 + a, none⟩ = some (.int .u64 (jn jt z a)) := by
      rw [hX1.hG.cell, show 2 + z * 12 + a = 2 + (z * 12 + a) by omega, gc_at _ _ _ _ (by omega), j1]
    have cg := hX1.hg.cell 0
    simp only [List.getElem?_toArray, List.getElem?_cons_zero] at cg
    have hq12 : (q : Int) ≤ 12 := by omega
    have hq1 : (1 : Int) ≤ q := by omega
    have hqw : IntKind.i64.wrap ((q : Int) - 1) = ((q - 1 : Nat) : Int) := by rw [IntWalk.i64_in _ (by omega)]; omega
    have Hl := Lib.hid hlie
    clear hlie
    obtain ⟨Y, hYe⟩ : ∃ Y, X.alloc (.cells (ic (cyc W)) 92) = Y := ⟨_, rfl⟩
    have HYe := Lib.hid hYe
    rw [hYe] at hX1 hw1 hk1 c0 ca cz cj cg
    obtain ⟨C, hC⟩ : ∃ C, C = ic (cyc W) := ⟨_, rfl⟩
    rw [← hC]
    rw [← hC] at hYe hw1
    have HC := Lib.hid hC
    clear hC
    refine (callsIn_wide (n := m + 1)).1 ?_
    refine callsIn_of_wp Try.func64 rfl trivial ?_ rfl
    simp only [Try.ntmps64, List.size_toArray, List.length_cons, List.length_nil, Nat.reduceAdd, Nat.reduceSub, Array.replicate_succ, Array.replicate_zero, List.push_toArray, List.append_toArray, List.nil_append, List.cons_append]
    have Ha := Lib.hid ha
    have Hz := Lib.hid hz
    have Hq := Lib.hid hq
    clear ha hz hq hzq
    gi_wp2
    gi_region
    have hX2 : OSt B l n lg bg bl G V jt Y.drew := hX1.later (below_drewN (n := 1) (Below.refl _ _))
    have hw2 : At Y.drew X.heap.size 92 C := hw1
    have hk2 : Keeps X Y.drew := below_drewN (n := 1) hk1
    have cj2 : Y.drew.cell? ⟨G, 2 + z * 12 + a, none⟩ = some (.int .u64 (jn jt z a)) := cj
    have cg2 : Y.drew.cell? ⟨bg, 0, none⟩ = some (.pointer (some ⟨G, 0, none⟩)) := cg
    have cq : Y.drew.cell? ⟨X.heap.size, 0, none⟩ = some (.int .i64 q) := c0
    clear hX1 hw1 hk1 cj cg c0 ca cz HYe hYe
    generalize Y.drew = Y2 at *
    have hY2s : X.heap.size + 1 ≤ Y2.heap.size := hw2.lt
    have hrd : RdI Y2 (.slice (some ⟨X.heap.size, 1, none⟩) q 12) (castL W) := by
      refine ⟨some ⟨X.heap.size, 1, none⟩, 12, by rw [castL_length, Hq.out], by rw [castL_length]; unfold maxLen; omega, fun i hi => ?_⟩
      rw [castL_length] at hi
      refine ⟨X.heap.size, 1, _, rfl, ?_, rfl⟩
      have h1 := hw2
      rw [HC.out] at h1
      rw [h1.int (1 + i) (by omega), cyc_at W i hi, castL_nth W i hi]
    have hnz : (jn jt z a : Int) < 18446744073709551616 := by omega
    have hjM : J k M Y2 := hJ k _ _ _ hj ((Holds.of_keeps hk2 _))
    have hM2 : ∀ r, M r → B + 2 ≤ r ∧ r < Y2.heap.size := fun r hr => ⟨(hM r hr).1, by have := (hM r hr).2; omega⟩
    have hXB : B + 2 ≤ X.heap.size := by have := hX.he.lt; omega
    have hpM : ¬ M X.heap.size := fun h => by have := (hM _ h).2; omega
    have hcs3 : (jn jt z a = 0) ∨ (jn jt z a ≠ 0 ∧ wrB W = false) ∨ (jn jt z a ≠ 0 ∧ wrB W = true) := by
      by_cases h : jn jt z a = 0
      · exact .inl h
      · cases h2 : wrB W
        · exact .inr (.inl ⟨h, rfl⟩)
        · exact .inr (.inr ⟨h, rfl⟩)
    have hDn : (jn jt z a = 0 ∨ wrB W = false) → D = [] := fun h => by
      rw [HD.out]; unfold hdO; rw [← Hz.out, ← Ha.out, if_neg]
      rintro ⟨h1, h2⟩
      rcases h with h | h
      · exact h1 h
      · rw [h] at h2; cases h2
    have hDy : jn jt z a ≠ 0 → wrB W = true → D = [(W, T ||| jn jt z a)] := fun h1 h2 => by
      rw [HD.out]; unfold hdO; rw [← Hz.out, ← Ha.out, if_pos ⟨h1, h2⟩]
    have hiw := fun Z hZ => isWritten_c (.slice (some ⟨X.heap.size, 1, none⟩) q 12) W (by omega) Z hZ
    have Hiw := Lib.hid hiw
    have HDn := Lib.hid hDn
    have HDy := Lib.hid hDy
    have Hnz := Lib.hid hnz
    clear hiw hDn hDy hnz
    obtain ⟨jz, hjz⟩ : ∃ jz, jn jt z a = jz := ⟨_, rfl⟩
    rw [hjz] at cj2 hcs3
    have Hjz := Lib.hid hjz
    clear hjz
    gi_step
    iterate 36 (first | gi_guarded | gi_step | gi_upon | skip)
    rename_i KR hKR KC hKC
    have hrest : ∀ (v36 v37 v38 v39 v40 v41 v42 v43 v44 v45 v46 v47 v48 v49 v50 : Value) (M4 : Nat → Prop) (X4 : World), J (k + D.length) M4 X4 → OSt B l n lg bg bl G V jt X4 → At X4 X.heap.size 92 C → (∀ r, M4 r → B + 2 ≤ r ∧ r < X4.heap.size) → (∀ r, M4 r → M r ∨ X.heap.size ≤ r) → ¬ M4 X.heap.size → Holds (fun r => K r ∨ (B ≤ r ∧ ¬ M r)) X X4 →
        KR { tmps := #[.agg C, .int .u64 T, .pointer (some ⟨bg, 0, none⟩), .pointer (some ⟨B, 0, none⟩), .pointer (some ⟨bl, 0, none⟩), .pointer (some ⟨B + 1, 0, none⟩), .pointer (some ⟨X.heap.size, 0, none⟩), undef, .bool false, .slice (some ⟨X.heap.size, 1, none⟩) q 12, .int .i64 a, .int .i64 z, .int .u64 jz, undef, undef, .pointer (some ⟨X.heap.size, 1, none⟩), .pointer (some ⟨X.heap.size, 0, none⟩), .int .i64 q, .slice (some ⟨X.heap.size, 1, none⟩) q 12, .slice (some ⟨X.heap.size, 1, none⟩) q 12, .pointer (some ⟨X.heap.size, 1, none⟩), .int .i64 a, .slice (some ⟨X.heap.size, 1, none⟩) q 12, .pointer (some ⟨X.heap.size, 0, none⟩), .int .i64 q, .int .i64 ((q - 1 : Nat) : Int), .pointer (some ⟨X.heap.size, 1 + (q - 1), none⟩), .int .i64 z, .pointer (some ⟨G, 0, none⟩), .int .i64 z, .int .i64 a, .pointer (some ⟨G, 0, none⟩), .pointer (some ⟨G, 2, none⟩), .pointer (some ⟨G, 2 + z * 12, none⟩), .pointer (some ⟨G, 2 + z * 12 + a, none⟩), .int .u64 jz, v36, v37, v38, v39, v40, v41, v42, v43, v44, v45, v46, v47, v48, v49, v50, undef, undef, undef, undef, undef, undef, undef, undef, undef, undef, undef, undef, undef, undef, undef, undef, undef, undef, undef, undef, undef, undef, undef, undef, undef, undef, undef, undef, undef, undef, undef, undef, undef, undef, undef, undef, undef, undef, undef, undef, undef], defers := [] } X4 := by
      intro v36 v37 v38 v39 v40 v41 v42 v43 v44 v45 v46 v47 v48 v49 v50 M4 X4 hJ4 hX4 hw4 hM4 hMM hpM4 hH4
      clear hcs3 hKC
      refine hKR _ _ ?_
      have cq4 : X4.cell? ⟨X.heap.size, 0, none⟩ = some (.int .i64 q) := by
        have := hw4
        rw [HC.out] at this
        rw [this.int 0 (by rw [cyc_length W (by omega)]; omega), cyc_0, Hq.out]
      have cl4 := hX4.hl.cell 0
      simp only [List.getElem?_toArray, List.getElem?_cons_zero] at cl4
      by_cases hql : q = lg
      · have hqlb : ((q : Int) == (lg : Int)) = true := by simp [hql]
        have hR0 : R = [] := by rw [HR.out, if_pos (by rw [Hq.out]; exact hql)]
        have HR0 := Lib.hid hR0
        clear hql hR0 hKR
        repeat (first | gi_guarded | gi_step | gi_upon | gi_back)
        exact bodyPost_ret (results_tmp Try.results64 _ _ _) rfl ⟨M4, hM4, hMM, hH4, hX4, .inl ⟨rfl, by rw [HR0.out, List.append_nil]; exact hJ4⟩⟩
      · have hqlb : ((q : Int) == (lg : Int)) = false := by rw [beq_eq_false_iff_ne]; omega
        have hR0 : R = ocP n jt lg f W T n := by rw [HR.out, if_neg (by rw [Hq.out]; exact hql)]
        have HR0 := Lib.hid hR0
        have hl2 : Lies xs (k + D.length) (ocP n jt lg f W T n) := by rw [← hR0]; exact Hl.out.right
        have Hl2 := Lib.hid hl2
        have HWay := Lib.hid hW
        have hsC : (Try.prog.info? 92).map (·.size) = some C.size := by rw [HC.out]; exact sizeC W (by omega)
        have haw : IntKind.i64.wrap ((a : Int) + 1) = ((a + 1 : Nat) : Int) := by rw [IntWalk.i64_in _ (by omega)]; omega
        clear hql hR0 hKR hl2
        repeat (first | gi_guarded | gi_step | gi_upon | gi_back)
        gi_loopw [13] (fun i wr => ∃ (s : Nat) (M5 : Nat → Prop), a + 1 ≤ s ∧ s ≤ n ∧ i = .int .i64 s ∧ J (k + D.length + (ocP n jt lg f W T s).length) M5 wr ∧ OSt B l n lg bg bl G V jt wr ∧ At wr X.heap.size 92 C ∧ (∀ r, M5 r → B + 2 ≤ r ∧ r < wr.heap.size) ∧ (∀ r, M5 r → M r ∨ X.heap.size ≤ r) ∧ ¬ M5 X.heap.size ∧ Holds (fun r => K r ∨ (B ≤ r ∧ ¬ M r)) X wr) (fun i _ => n - (intOf i).toNat)
        case atStart => exact ⟨a + 1, M4, Nat.le_refl _, by omega, by first | rfl | rw [haw] | simp, by rw [Ha.out, ocP_zero]; exact hJ4, hX4, hw4, hM4, hMM, hpM4, hH4⟩
        case round =>
          obtain ⟨s, M5, hs1, hs2, rfl, hJ5, hX5, hw5, hM5, hMM5, hpM5, hH5⟩ := hrel
          clear cq4 cl4 hX4 hw4 hJ4 hM4 hMM hpM4 hH4 hqlb haw
          have cg5 := hX5.hg.cell 0
          simp only [List.getElem?_toArray, List.getElem?_cons_zero] at cg5
          have cn5 : wr.cell? ⟨G, 0, none⟩ = some (.int .i64 n) := hX5.hG.cell 0
          by_cases hsn : s < n
          · obtain ⟨j1, j2⟩ := jn_at hjt z s (by omega) (by omega)
            have cj5 : wr.cell? ⟨G, 2 + z * 12 + s, none⟩ = some (.int .u64 (jn jt z s)) := by
              rw [hX5.hG.cell, show 2 + z * 12 + s = 2 + (z * 12 + s) by omega, gc_at _ _ _ _ (by omega), j1]
            have hgo := ocP_succ n jt lg f W T s (by rw [← Ha.out]; exact hs1)
            have hok : okN jt W s = (decide (jn jt z s ≠ 0) && !decide (s ∈ W)) := by unfold okN; rw [← Hz.out]
            have HG := Lib.hid hgo
            have hkid := fun h => Lies.kid Hl2.out (by rw [← Ha.out]; exact hs1) hsn h
            rw [← Hz.out] at hkid
            have Hkid := Lib.hid hkid
            have Hj2 := Lib.hid j2
            have Hok := Lib.hid hok
            have hrd5 : RdI wr (.slice (some ⟨X.heap.size, 1, none⟩) q 12) (castL W) := by
              refine ⟨some ⟨X.heap.size, 1, none⟩, 12, by rw [castL_length, Hq.out], by rw [castL_length]; unfold maxLen; omega, fun i hi => ?_⟩
              rw [castL_length] at hi
              refine ⟨X.heap.size, 1, _, rfl, ?_, rfl⟩
              have h1 := hw5
              rw [HC.out] at h1
              rw [h1.int (1 + i) (by omega), cyc_at W i hi, castL_nth W i hi]
            obtain ⟨js, hjs⟩ : ∃ js, jn jt z s = js := ⟨_, rfl⟩
            rw [hjs] at cj5
            have Hjs := Lib.hid hjs
            clear hgo hkid j1 j2 hok hjs
            have hsnI : (s : Int) < n := by omega
            have hsw : IntKind.i64.wrap ((s : Int) + 1) = ((s + 1 : Nat) : Int) := by rw [IntWalk.i64_in _ (by omega)]; omega
            repeat (first | gi_guarded | gi_step | gi_upon | gi_back)
            by_cases h0 : js = 0
            · subst h0
              have hok0 : okN jt W s = false := by rw [Hok.out, Hjs.out]; rfl
              rw [hok0] at HG
              refine region_earlyIn [] (G := Unit) (f := ?fA) (fun g => [.int .u64 (0 : Nat), .bool false, .bool false, undef, undef, undef, undef, .bool false, .bool false, undef, undef, undef, undef, undef, undef, undef, undef, undef, .bool false])
                (fun _ _ w' => Keeps wr w') () (fun _ => ?hfA) (by kernel_rfl) (by kernel_rfl) (by kernel_rfl) (fun _ h => by cases h) (keeps_dr (Below.refl _ _)) ?stepsA ?finA
              case hfA =>
                simp only [fill, List.toList_toArray, List.zip_cons_cons, List.zip_nil_left, List.zip_nil_right, List.foldl_cons, List.foldl_nil, Act.put, List.setIfInBounds_toArray, List.set_cons_succ, List.set_cons_zero]
                exact rfl
              case stepsA =>
                refine StepsIn.cons rfl (fun g L w' hL hr hc hF => ?_) ?_
                · refine StepIn.go rfl (fun K0 hK0 => ?_)
                  go_simp
                  exact hK0 g _ hF
                refine StepsIn.cons rfl (fun g L w' hL hr hc hF => ?_) ?_
                · refine StepIn.go rfl (fun K0 hK0 => ?_)
                  go_simp
                  exact hK0 g _ hF
                refine StepsIn.cons rfl (fun g L w' hL hr hc hF => ?_) ?_
                · refine StepIn.go rfl (fun K0 hK0 => ?_)
                  go_simp
                  exact hK0 g _ hF
                refine StepsIn.cons rfl (fun g L w' hL hr hc hF => ?_) ?_
                · exact StepIn.struck rfl ⟨fun _ _ => trivial, g, rfl, hF⟩
                refine StepsIn.cons rfl (fun g L w' hL hr hc hF => ?_) ?_
                · exact StepIn.struck rfl ⟨fun _ _ => trivial, g, rfl, hF⟩
                refine StepsIn.cons rfl (fun g L w' hL hr hc hF => ?_) ?_
                · exact StepIn.struck rfl ⟨fun _ _ => trivial, g, rfl, hF⟩
                refine StepsIn.cons rfl (fun g L w' hL hr hc hF => ?_) ?_
                · exact StepIn.struck rfl ⟨fun _ _ => trivial, g, rfl, hF⟩
                refine StepsIn.cons rfl (fun g L w' hL hr hc hF => ?_) ?_
                · refine StepIn.go rfl (fun K0 hK0 => ?_)
                  go_simp
                  exact hK0 g _ hF
                refine StepsIn.cons rfl (fun g L w' hL hr hc hF => ?_) ?_
                · refine StepIn.go rfl (fun K0 hK0 => ?_)
                  go_simp
                  exact hK0 g _ hF
                refine StepsIn.cons rfl (fun g L w' hL hr hc hF => ?_) ?_
                · exact StepIn.struck rfl ⟨fun _ _ => trivial, g, rfl, hF⟩
                refine StepsIn.cons rfl (fun g L w' hL hr hc hF => ?_) ?_
                · exact StepIn.struck rfl ⟨fun _ _ => trivial, g, rfl, hF⟩
                refine StepsIn.cons rfl (fun g L w' hL hr hc hF => ?_) ?_
                · exact StepIn.struck rfl ⟨fun _ _ => trivial, g, rfl, hF⟩
                refine StepsIn.cons rfl (fun g L w' hL hr hc hF => ?_) ?_
                · exact StepIn.struck rfl ⟨fun _ _ => trivial, g, rfl, hF⟩
                refine StepsIn.cons rfl (fun g L w' hL hr hc hF => ?_) ?_
                · exact StepIn.struck rfl ⟨fun _ _ => trivial, g, rfl, hF⟩
                refine StepsIn.cons rfl (fun g L w' hL hr hc hF => ?_) ?_
                · exact StepIn.struck rfl ⟨fun _ _ => trivial, g, rfl, hF⟩
                refine StepsIn.cons rfl (fun g L w' hL hr hc hF => ?_) ?_
                · exact StepIn.struck rfl ⟨fun _ _ => trivial, g, rfl, hF⟩
                refine StepsIn.cons rfl (fun g L w' hL hr hc hF => ?_) ?_
                · exact StepIn.struck rfl ⟨fun _ _ => trivial, g, rfl, hF⟩
                refine StepsIn.cons rfl (fun g L w' hL hr hc hF => ?_) ?_
                · exact StepIn.struck rfl ⟨fun _ _ => trivial, g, rfl, hF⟩
                refine StepsIn.cons rfl (fun g L w' hL hr hc hF => ?_) ?_
                · refine StepIn.go rfl (fun K0 hK0 => ?_)
                  go_simp
                  exact hK0 g _ hF
                exact StepsIn.nil (by simp)
              case finA =>
              intro g L w9 hall hF
              have hX9 := hX5.later hF
              have hw9 := hw5.later hF
              repeat (first | gi_guarded | gi_step | gi_upon | gi_back)
              refine ⟨?rel, ?measure⟩
              case rel =>
                refine ⟨s + 1, M5, by omega, by omega, by go_num, by rw [HG.out, if_neg (by simp), List.append_nil]; exact hJ _ _ _ _ hJ5 (Holds.of_keeps hF _), hX9, hw9, fun r h => ⟨(hM5 r h).1, Nat.lt_of_lt_of_le (hM5 r h).2 hF.size⟩, hMM5, hpM5, hH5.trans (Holds.of_keeps hF _)⟩
              case measure => simp [intOf]; omega
            · have b1 : ((js : Int) != 0) = true := by simp [h0]
              have hcon0 := fun Z (hZ : Keeps wr Z) => contains_c (.slice (some ⟨X.heap.size, 1, none⟩) q 12) (castL W) (s : Int) Z (hrd5.below hZ)
              have hmc : ((s : Int) ∈ castL W) ↔ s ∈ W := ⟨fun h => by
                obtain ⟨x, hx, e⟩ := List.mem_map.1 h
                have : x = s := by omega
                exact this ▸ hx, fun h => List.mem_map.2 ⟨s, h, rfl⟩⟩
              by_cases hin : s ∈ W
              · have hcd : decide ((s : Int) ∈ castL W) = true := by simp [hmc, hin]
                have hcon : ∀ Z, Keeps wr Z → Calls Try.prog 66 #[.slice (some ⟨X.heap.size, 1, none⟩) q 12, .int .i64 s] Z fun e w' => e = .returned (.bool true) ∧ Z = w' := fun Z hZ => by have := hcon0 Z hZ; rw [hcd] at this; exact this
                have hok0 : okN jt W s = false := by rw [Hok.out]; simp [hin]
                rw [hok0] at HG
                clear hcon0 hcd hok0 hrd5
                refine region_earlyIn [] (G := Unit) (f := ?fB) (fun g => [.int .u64 js, .bool true, .bool true, .slice (some ⟨X.heap.size, 1, none⟩) q 12, .int .i64 s, .bool true, .bool false, .bool false, .bool false, undef, undef, undef, undef, undef, undef, undef, undef, undef, .bool false])
                  (fun _ _ w' => Keeps wr w') () (fun _ => ?hfB) (by kernel_rfl) (by kernel_rfl) (by kernel_rfl) (fun _ h => by cases h) (keeps_dr (Below.refl _ _)) ?stepsB ?finB
                case hfB =>
                  simp only [fill, List.toList_toArray, List.zip_cons_cons, List.zip_nil_left, List.zip_nil_right, List.foldl_cons, List.foldl_nil, Act.put, List.setIfInBounds_toArray, List.set_cons_succ, List.set_cons_zero]
                  exact rfl
                case stepsB =>
                  refine StepsIn.cons rfl (fun g L w' hL hr hc hF => ?_) ?_
                  · refine StepIn.go rfl (fun K0 hK0 => ?_)
                    go_simp
                    exact hK0 g _ hF
                  refine StepsIn.cons rfl (fun g L w' hL hr hc hF => ?_) ?_
                  · refine StepIn.go rfl (fun K0 hK0 => ?_)
                    go_simp
                    exact hK0 g _ hF
                  refine StepsIn.cons rfl (fun g L w' hL hr hc hF => ?_) ?_
                  · refine StepIn.go rfl (fun K0 hK0 => ?_)
                    go_simp
                    exact hK0 g _ hF
                  refine StepsIn.cons rfl (fun g L w' hL hr hc hF => ?_) ?_
                  · refine StepIn.go rfl (fun K0 hK0 => ?_)
                    go_simp
                    exact hK0 g _ hF
                  refine StepsIn.cons rfl (fun g L w' hL hr hc hF => ?_) ?_
                  · refine StepIn.go rfl (fun K0 hK0 => ?_)
                    go_simp
                    exact hK0 g _ hF
                  refine StepsIn.cons rfl (fun g L w' hL hr hc hF => ?_) ?_
                  · refine StepIn.go rfl (fun K0 hK0 => ?_)
                    go_simp
                    refine ⟨trivial, (callsIn_wide.2 (hcon _ hF)).mono ?_⟩
                    rintro e w5 ⟨rfl, rfl⟩
                    exact hK0 g _ hF
                  refine StepsIn.cons rfl (fun g L w' hL hr hc hF => ?_) ?_
                  · refine StepIn.go rfl (fun K0 hK0 => ?_)
                    go_simp
                    exact hK0 g _ hF
                  refine StepsIn.cons rfl (fun g L w' hL hr hc hF => ?_) ?_
                  · refine StepIn.go rfl (fun K0 hK0 => ?_)
                    go_simp
                    exact hK0 g _ hF
                  refine StepsIn.cons rfl (fun g L w' hL hr hc hF => ?_) ?_
                  · refine StepIn.go rfl (fun K0 hK0 => ?_)
                    go_simp
                    exact hK0 g _ hF
                  refine StepsIn.cons rfl (fun g L w' hL hr hc hF => ?_) ?_
                  · exact StepIn.struck rfl ⟨fun _ _ => trivial, g, rfl, hF⟩
                  refine StepsIn.cons rfl (fun g L w' hL hr hc hF => ?_) ?_
                  · exact StepIn.struck rfl ⟨fun _ _ => trivial, g, rfl, hF⟩
                  refine StepsIn.cons rfl (fun g L w' hL hr hc hF => ?_) ?_
                  · exact StepIn.struck rfl ⟨fun _ _ => trivial, g, rfl, hF⟩
                  refine StepsIn.cons rfl (fun g L w' hL hr hc hF => ?_) ?_
                  · exact StepIn.struck rfl ⟨fun _ _ => trivial, g, rfl, hF⟩
                  refine StepsIn.cons rfl (fun g L w' hL hr hc hF => ?_) ?_
                  · exact StepIn.struck rfl ⟨fun _ _ => trivial, g, rfl, hF⟩
                  refine StepsIn.cons rfl (fun g L w' hL hr hc hF => ?_) ?_
                  · exact StepIn.struck rfl ⟨fun _ _ => trivial, g, rfl, hF⟩
                  refine StepsIn.cons rfl (fun g L w' hL hr hc hF => ?_) ?_
                  · exact StepIn.struck rfl ⟨fun _ _ => trivial, g, rfl, hF⟩
                  refine StepsIn.cons rfl (fun g L w' hL hr hc hF => ?_) ?_
                  · exact StepIn.struck rfl ⟨fun _ _ => trivial, g, rfl, hF⟩
                  refine StepsIn.cons rfl (fun g L w' hL hr hc hF => ?_) ?_
                  · exact StepIn.struck rfl ⟨fun _ _ => trivial, g, rfl, hF⟩
                  refine StepsIn.cons rfl (fun g L w' hL hr hc hF => ?_) ?_
                  · refine StepIn.go rfl (fun K0 hK0 => ?_)
                    go_simp
                    exact hK0 g _ hF
                  exact StepsIn.nil (by simp)
                case finB =>
                intro g L w9 hall hF
                have hX9 := hX5.later hF
                have hw9 := hw5.later hF
                repeat (first | gi_guarded | gi_step | gi_upon | gi_back)
                refine ⟨?rel, ?measure⟩
                case rel =>
                  refine ⟨s + 1, M5, by omega, by omega, by go_num, by rw [HG.out, if_neg (by simp), List.append_nil]; exact hJ _ _ _ _ hJ5 (Holds.of_keeps hF _), hX9, hw9, fun r h => ⟨(hM5 r h).1, Nat.lt_of_lt_of_le (hM5 r h).2 hF.size⟩, hMM5, hpM5, hH5.trans (Holds.of_keeps hF _)⟩
                case measure => simp [intOf]; omega
              · have hcd : decide ((s : Int) ∈ castL W) = false := by simp [hmc, hin]
                have hcon : ∀ Z, Keeps wr Z → Calls Try.prog 66 #[.slice (some ⟨X.heap.size, 1, none⟩) q 12, .int .i64 s] Z fun e w' => e = .returned (.bool false) ∧ Z = w' := fun Z hZ => by have := hcon0 Z hZ; rw [hcd] at this; exact this
                have hok1 : okN jt W s = true := by rw [Hok.out, Hjs.out]; simp [hin, h0]
                have hk := Hkid.out hok1
                rw [hok1, if_pos rfl, ← Hz.out, Hjs.out] at HG
                rw [Hjs.out] at hk
                have hwm := HWay.out.more hsn hin
                have hwl := hwm.len
                rw [List.length_append, List.length_singleton] at hwl
                have hwith := fun Z => with_c W s (by omega) Z
                rw [← HC.out] at hwith
                have hjs64 : js < 2 ^ 64 := by have := Hj2.out; rw [Hjs.out] at this; exact this
                have hbo := bits_or_64 T js hT hjs64
                obtain ⟨kk, hkk⟩ : ∃ kk, k + D.length + (ocP n jt lg f W T s).length + (oc n jt lg f (W ++ [s]) (T ||| js)).length = kk := ⟨_, rfl⟩
                have hrec : ∀ Z, Keeps wr Z → Calls Try.prog 64 #[.agg (ic (cyc (W ++ [s]))), .int .u64 (T ||| js : Nat), .pointer (some ⟨bg, 0, none⟩), .pointer (some ⟨B, 0, none⟩), .pointer (some ⟨bl, 0, none⟩), .pointer (some ⟨B + 1, 0, none⟩)] Z
                    (fun e w' => ∃ b : Bool, e = .returned (.bool b) ∧ OEnd B l n lg bg bl G V jt K J Jx kk M5 wr (.returned (.bool b)) w') := fun Z hZ => by
                  have h1 := Hih.out (W ++ [s]) (T ||| js) _ M5 Z (by rw [List.length_append, List.length_singleton]; omega) hwm (Nat.or_lt_two_pow hT hjs64) hk (hJ _ _ _ _ hJ5 (Holds.of_keeps hZ _)) (fun r h => ⟨(hM5 r h).1, Nat.lt_of_lt_of_le (hM5 r h).2 hZ.size⟩)
                    ((hH.trans2 hH5 (fun r _ h => .inl h)).trans (Holds.of_keeps hZ _)) (hX5.later hZ)
                  rw [hkk] at h1
                  refine h1.mono ?_
                  rintro e w' ⟨M', p1, p2, p3, p4, p5⟩
                  rcases p5 with ⟨rfl, p5⟩ | ⟨rfl, p5⟩
                  · exact ⟨true, rfl, M', p1, fun r h => (p2 r h).imp id (fun h => Nat.le_trans hZ.size h), (Holds.of_keeps hZ _).trans p3, p4, .inl ⟨rfl, p5⟩⟩
                  · exact ⟨false, rfl, M', p1, fun r h => (p2 r h).imp id (fun h => Nat.le_trans hZ.size h), (Holds.of_keeps hZ _).trans p3, p4, .inr ⟨rfl, p5⟩⟩
                have Hkk := Lib.hid hkk
                have hp4 := hw5
                have hrs := hw5.lt
                clear hcon0 hcd hok1 hrd5 hk hkk hwm
                refine region_earlyIn [] (G := Bool × Bool × Bool) (f := ?fC) (fun g => [.int .u64 js, .bool true, .bool true, .slice (some ⟨X.heap.size, 1, none⟩) q 12, .int .i64 s, .bool false, .bool true, .bool true, .bool true, .func (.func 64) #[] #[.pointer (some ⟨bg, 0, none⟩), .pointer (some ⟨B, 0, none⟩), .pointer (some ⟨bl, 0, none⟩), .pointer (some ⟨B + 1, 0, none⟩)], .agg C, .int .i64 s, .agg (ic (cyc (W ++ [s]))), .int .u64 T, .int .u64 js, .int .u64 (T ||| js : Nat), .bool g.1, .bool g.2.1, .bool g.2.2])
                  (fun g L w' => (L 16 = false → Keeps wr w') ∧ (L 16 = true → OEnd B l n lg bg bl G V jt K J Jx kk M5 wr (.returned (.bool g.1)) w') ∧ (L 17 = true → g.2.1 = !g.1) ∧ (L 18 = true → g.2.2 = g.2.1)) (true, true, true) (fun _ => ?hfC) (by kernel_rfl) (by kernel_rfl) (by kernel_rfl) (fun _ h => by cases h) ⟨fun _ => keeps_dr (Below.refl _ _), fun h => (by cases h), fun h => (by cases h), fun h => (by cases h)⟩ ?stepsC ?finC
                case hfC =>
                  simp only [fill, List.toList_toArray, List.zip_cons_cons, List.zip_nil_left, List.zip_nil_right, List.foldl_cons, List.foldl_nil, Act.put, List.setIfInBounds_toArray, List.set_cons_succ, List.set_cons_zero]
                  exact rfl
                case stepsC =>
                  refine StepsIn.cons rfl (fun g L w' hL hr hc hF => ?_) ?_
                  · obtain ⟨f1, f2, f3, f4⟩ := hF
                    have h16 : L 16 = false := hc.not 16 8 rfl rfl (hc.not 8 7 rfl rfl (hc.not 7 2 rfl rfl (hc.not 2 1 rfl rfl (hc.not 1 0 rfl rfl hL))))
                    have hk9 := f1 h16
                    refine StepIn.go rfl (fun K0 hK0 => ?_)
                    go_simp
                    exact hK0 g _ ⟨fun _ => hk9, fun h => (by have h9 : L 16 = true := h; rw [h16] at h9; cases h9), f3, f4⟩
                  refine StepsIn.cons rfl (fun g L w' hL hr hc hF => ?_) ?_
                  · obtain ⟨f1, f2, f3, f4⟩ := hF
                    have h16 : L 16 = false := hc.not 16 8 rfl rfl (hc.not 8 7 rfl rfl (hc.not 7 2 rfl rfl (hc.not 2 1 rfl rfl hL)))
                    have hk9 := f1 h16
                    refine StepIn.go rfl (fun K0 hK0 => ?_)
                    go_simp
                    exact hK0 g _ ⟨fun _ => hk9, fun h => (by have h9 : L 16 = true := h; rw [h16] at h9; cases h9), f3, f4⟩
                  refine StepsIn.cons rfl (fun g L w' hL hr hc hF => ?_) ?_
                  · obtain ⟨f1, f2, f3, f4⟩ := hF
                    have h16 : L 16 = false := hc.not 16 8 rfl rfl (hc.not 8 7 rfl rfl (hc.not 7 2 rfl rfl hL))
                    have hk9 := f1 h16
                    refine StepIn.go rfl (fun K0 hK0 => ?_)
                    go_simp
                    exact hK0 g _ ⟨fun _ => hk9, fun h => (by have h9 : L 16 = true := h; rw [h16] at h9; cases h9), f3, f4⟩
                  refine StepsIn.cons rfl (fun g L w' hL hr hc hF => ?_) ?_
                  · obtain ⟨f1, f2, f3, f4⟩ := hF
                    have h16 : L 16 = false := hc.not 16 8 rfl rfl (hc.not 8 7 rfl rfl (hc.not 7 6 rfl rfl (hc.not 6 5 rfl rfl (hc.not 5 3 rfl rfl hL))))
                    have hk9 := f1 h16
                    refine StepIn.go rfl (fun K0 hK0 => ?_)
                    go_simp
                    exact hK0 g _ ⟨fun _ => hk9, fun h => (by have h9 : L 16 = true := h; rw [h16] at h9; cases h9), f3, f4⟩
                  refine StepsIn.cons rfl (fun g L w' hL hr hc hF => ?_) ?_
                  · obtain ⟨f1, f2, f3, f4⟩ := hF
                    have h16 : L 16 = false := hc.not 16 8 rfl rfl (hc.not 8 7 rfl rfl (hc.not 7 6 rfl rfl (hc.not 6 5 rfl rfl (hc.not 5 4 rfl rfl hL))))
                    have hk9 := f1 h16
                    refine StepIn.go rfl (fun K0 hK0 => ?_)
                    go_simp
                    exact hK0 g _ ⟨fun _ => hk9, fun h => (by have h9 : L 16 = true := h; rw [h16] at h9; cases h9), f3, f4⟩
                  refine StepsIn.cons rfl (fun g L w' hL hr hc hF => ?_) ?_
                  · obtain ⟨f1, f2, f3, f4⟩ := hF
                    have h16 : L 16 = false := hc.not 16 8 rfl rfl (hc.not 8 7 rfl rfl (hc.not 7 6 rfl rfl (hc.not 6 5 rfl rfl hL)))
                    have hk9 := f1 h16
                    refine StepIn.go rfl (fun K0 hK0 => ?_)
                    go_simp
                    refine ⟨trivial, (callsIn_wide.2 (hcon _ hk9)).mono ?_⟩
                    rintro e w5 ⟨rfl, rfl⟩
                    exact hK0 g _ ⟨fun _ => hk9, fun h => (by have h9 : L 16 = true := h; rw [h16] at h9; cases h9), f3, f4⟩
                  refine StepsIn.cons rfl (fun g L w' hL hr hc hF => ?_) ?_
                  · obtain ⟨f1, f2, f3, f4⟩ := hF
                    have h16 : L 16 = false := hc.not 16 8 rfl rfl (hc.not 8 7 rfl rfl (hc.not 7 6 rfl rfl hL))
                    have hk9 := f1 h16
                    refine StepIn.go rfl (fun K0 hK0 => ?_)
                    go_simp
                    exact hK0 g _ ⟨fun _ => hk9, fun h => (by have h9 : L 16 = true := h; rw [h16] at h9; cases h9), f3, f4⟩
                  refine StepsIn.cons rfl (fun g L w' hL hr hc hF => ?_) ?_
                  · obtain ⟨f1, f2, f3, f4⟩ := hF
                    have h16 : L 16 = false := hc.not 16 8 rfl rfl (hc.not 8 7 rfl rfl hL)
                    have hk9 := f1 h16
                    refine StepIn.go rfl (fun K0 hK0 => ?_)
                    go_simp
                    exact hK0 g _ ⟨fun _ => hk9, fun h => (by have h9 : L 16 = true := h; rw [h16] at h9; cases h9), f3, f4⟩
                  refine StepsIn.cons rfl (fun g L w' hL hr hc hF => ?_) ?_
                  · obtain ⟨f1, f2, f3, f4⟩ := hF
                    have h16 : L 16 = false := hc.not 16 8 rfl rfl hL
                    have hk9 := f1 h16
                    refine StepIn.go rfl (fun K0 hK0 => ?_)
                    go_simp
                    exact hK0 g _ ⟨fun _ => hk9, fun h => (by have h9 : L 16 = true := h; rw [h16] at h9; cases h9), f3, f4⟩
                  refine StepsIn.cons rfl (fun g L w' hL hr hc hF => ?_) ?_
                  · obtain ⟨f1, f2, f3, f4⟩ := hF
                    have h16 : L 16 = false := hc.not 16 9 rfl rfl hL
                    have hk9 := f1 h16
                    have ce := (hX5.he.later hk9).cell 0
                    simp only [List.getElem?_toArray, List.getElem?_cons_zero] at ce
                    refine StepIn.go rfl (fun K0 hK0 => ?_)
                    go_simp
                    exact hK0 g _ ⟨fun _ => hk9, fun h => (by have h9 : L 16 = true := h; rw [h16] at h9; cases h9), f3, f4⟩
                  refine StepsIn.cons rfl (fun g L w' hL hr hc hF => ?_) ?_
                  · obtain ⟨f1, f2, f3, f4⟩ := hF
                    have h16 : L 16 = false := hc.not 16 12 rfl rfl (hc.not 12 10 rfl rfl hL)
                    have hk9 := f1 h16
                    refine StepIn.go rfl (fun K0 hK0 => ?_)
                    refine op_load_row 92 _ rfl X.heap.size rfl 92 C _ (hp4.later hk9) Try.underlying92 rfl hsC ?_
                    exact hK0 g _ ⟨fun _ => hk9, fun h => (by have h9 : L 16 = true := h; rw [h16] at h9; cases h9), f3, f4⟩
                  refine StepsIn.cons rfl (fun g L w' hL hr hc hF => ?_) ?_
                  · obtain ⟨f1, f2, f3, f4⟩ := hF
                    have h16 : L 16 = false := hc.not 16 12 rfl rfl (hc.not 12 11 rfl rfl hL)
                    have hk9 := f1 h16
                    refine StepIn.go rfl (fun K0 hK0 => ?_)
                    go_simp
                    exact hK0 g _ ⟨fun _ => hk9, fun h => (by have h9 : L 16 = true := h; rw [h16] at h9; cases h9), f3, f4⟩
                  refine StepsIn.cons rfl (fun g L w' hL hr hc hF => ?_) ?_
                  · obtain ⟨f1, f2, f3, f4⟩ := hF
                    have h16 : L 16 = false := hc.not 16 12 rfl rfl hL
                    have hk9 := f1 h16
                    refine StepIn.go rfl (fun K0 hK0 => ?_)
                    go_simp
                    refine ⟨trivial, (callsIn_wide.2 (hwith _)).mono ?_⟩
                    rintro e w5 ⟨rfl, hb5⟩
                    exact hK0 g _ ⟨fun _ => hk9.next hb5, fun h => (by have h9 : L 16 = true := h; rw [h16] at h9; cases h9), f3, f4⟩
                  refine StepsIn.cons rfl (fun g L w' hL hr hc hF => ?_) ?_
                  · obtain ⟨f1, f2, f3, f4⟩ := hF
                    have h16 : L 16 = false := hc.not 16 15 rfl rfl (hc.not 15 13 rfl rfl hL)
                    have hk9 := f1 h16
                    refine StepIn.go rfl (fun K0 hK0 => ?_)
                    go_simp
                    exact hK0 g _ ⟨fun _ => hk9, fun h => (by have h9 : L 16 = true := h; rw [h16] at h9; cases h9), f3, f4⟩
                  refine StepsIn.cons rfl (fun g L w' hL hr hc hF => ?_) ?_
                  · obtain ⟨f1, f2, f3, f4⟩ := hF
                    have h16 : L 16 = false := hc.not 16 15 rfl rfl (hc.not 15 14 rfl rfl hL)
                    have hk9 := f1 h16
                    refine StepIn.go rfl (fun K0 hK0 => ?_)
                    go_simp
                    exact hK0 g _ ⟨fun _ => hk9, fun h => (by have h9 : L 16 = true := h; rw [h16] at h9; cases h9), f3, f4⟩
                  refine StepsIn.cons rfl (fun g L w' hL hr hc hF => ?_) ?_
                  · obtain ⟨f1, f2, f3, f4⟩ := hF
                    have h16 : L 16 = false := hc.not 16 15 rfl rfl hL
                    have hk9 := f1 h16
                    refine StepIn.go rfl (fun K0 hK0 => ?_)
                    go_simp
                    exact hK0 g _ ⟨fun _ => hk9, fun h => (by have h9 : L 16 = true := h; rw [h16] at h9; cases h9), f3, f4⟩
                  refine StepsIn.cons rfl (fun g L w' hL hr hc hF => ?_) ?_
                  · obtain ⟨f1, f2, f3, f4⟩ := hF
                    have hk9 := f1 hL
                    have e17 := hc.not 17 16 rfl rfl hL
                    have e18 := hc.not 18 17 rfl rfl e17
                    refine StepIn.go rfl (fun K0 hK0 => ?_)
                    go_simp
                    refine ⟨trivial, (callsIn_wide.2 (hrec _ hk9)).mono ?_⟩
                    rintro e w5 ⟨b5, rfl, hp5⟩
                    exact hK0 (b5, g.2) _ ⟨fun h => (by cases h), fun _ => hp5, fun h => (by have h' : L 17 = true := h; rw [e17] at h'; cases h'), fun h => (by have h' : L 18 = true := h; rw [e18] at h'; cases h')⟩
                  refine StepsIn.cons rfl (fun g L w' hL hr hc hF => ?_) ?_
                  · obtain ⟨f1, f2, f3, f4⟩ := hF
                    have h16 : L 16 = true := hr 16 rfl
                    have hp5 := f2 h16
                    have e18 := hc.not 18 17 rfl rfl hL
                    refine StepIn.go rfl (fun K0 hK0 => ?_)
                    go_simp
                    exact hK0 (g.1, !g.1, g.2.2) _ ⟨fun h => (by have h9 : L 16 = false := h; rw [h16] at h9; cases h9), fun _ => hp5, fun _ => rfl, fun h => (by have h' : L 18 = true := h; rw [e18] at h'; cases h')⟩
                  refine StepsIn.cons rfl (fun g L w' hL hr hc hF => ?_) ?_
                  · obtain ⟨f1, f2, f3, f4⟩ := hF
                    have h17 : L 17 = true := hr 17 rfl
                    have h16 : L 16 = true := hc 17 _ rfl h17 16 rfl
                    have hp5 := f2 h16
                    have F3 := Lib.hid (f3 h17)
                    clear f3
                    refine StepIn.go rfl (fun K0 hK0 => ?_)
                    go_simp
                    exact hK0 (g.1, g.2.1, g.2.1) _ ⟨fun h => (by have h9 : L 16 = false := h; rw [h16] at h9; cases h9), fun _ => hp5, fun _ => F3.out, fun _ => rfl⟩
                  exact StepsIn.nil (by simp)
                case finC =>
                intro g L w9 hall hF
                obtain ⟨g1, g2, g3⟩ := g
                obtain ⟨M', p1, p2, p3, p4, p5⟩ := hF.2.1 (hall 16 (by simp))
                have f3 := hF.2.2.1 (hall 17 (by simp))
                have f4 := hF.2.2.2 (hall 18 (by simp))
                simp only at f3 f4
                subst f4
                have hX0 := hX5.he.lt
                have hMX : ∀ r, M' r → M r ∨ X.heap.size ≤ r := fun r hr => (p2 r hr).elim (fun h => hMM5 r h) (fun h => .inr (by omega))
                have hHX : Holds (fun r => K r ∨ (B ≤ r ∧ ¬ M r)) X w9 := hH5.trans2 p3 (fun r hr h => h.imp id (fun h => ⟨h.1, fun hm => (hMM5 r hm).elim h.2 (fun h' => by omega)⟩))
                rcases p5 with ⟨e, p5⟩ | ⟨e, p5⟩
                · obtain rfl : g1 = true := by simpa using e
                  obtain rfl : g3 = false := f3
                  clear hF hall
                  repeat (first | gi_guarded | gi_step | gi_upon | gi_back)
                  refine ⟨?rel, ?measure⟩
                  case rel =>
                    refine ⟨s + 1, M', by omega, by omega, by go_num, by rw [HG.out, List.length_append, ← Nat.add_assoc, Hkk.out]; exact p5, p4, hw5.holds p3 (.inr ⟨by omega, hpM5⟩), p1, hMX, fun h => (p2 _ h).elim hpM5 (fun h => by omega), hHX⟩
                  case measure => simp [intOf]; omega
                · obtain rfl : g1 = false := by simpa using e
                  obtain rfl : g3 = true := f3
                  clear hF hall
                  repeat (first | gi_guarded | gi_step | gi_upon | gi_back)
                  exact bodyPost_ret (results_tmp Try.results64 _ _ _) rfl ⟨M', p1, hMX, hHX, p4, .inr ⟨rfl, p5⟩⟩
          · obtain rfl : s = n := by omega
            repeat (first | gi_guarded | gi_step | gi_upon | gi_back)
            exact bodyPost_ret (results_tmp Try.results64 _ _ _) rfl ⟨M5, hM5, hMM5, hH5, hX5, .inl ⟨rfl, by rw [List.length_append, HR0.out, ← Nat.add_assoc]; exact hJ5⟩⟩
    have HKR := Lib.hid hKR
    clear hKR
    rcases hcs3 with hc | ⟨hc, hc2⟩ | ⟨hc, hc2⟩
    · have b0 : ((jz : Int) != 0) = false := by simp [hc]
      have hD0 := HDn.out (.inl (by rw [Hjz.out]; exact hc))
      have HD0 := Lib.hid hD0
      clear hc hD0
      repeat (first | gi_guarded | gi_step | gi_upon | gi_back)
      rename_i hK9
      refine ⟨trivial, hK9 _ _ ?_⟩
      repeat (first | gi_guarded | gi_step | gi_upon | gi_back)
      rename_i hK10
      refine ⟨fun f h => (by cases h), hK10 _ _ ?_⟩
      repeat (first | gi_guarded | gi_step | gi_upon | gi_back)
      exact hrest _ _ _ _ _ _ _ _ _ _ _ _ _ _ _ M _ (by rw [HD0.out]; exact hjM) hX2 hw2 hM2 (fun r h => .inl h) hpM (Holds.of_keeps hk2 _)
    · have b0 : ((jz : Int) != 0) = true := by simp [hc]
      have hD0 := HDn.out (.inr hc2)
      have HD0 := Lib.hid hD0
      have hiw := Hiw.out
      rw [hc2] at hiw
      clear hc hc2 hD0
      repeat (first | gi_guarded | gi_step | gi_upon | gi_back)
      refine ⟨trivial, (callsIn_wide.2 (hiw _ hrd)).mono ?_⟩
      rintro e Y3 ⟨rfl, hk3⟩
      dsimp only
      repeat (first | gi_guarded | gi_step | gi_upon | gi_back)
      rename_i hK10
      refine ⟨fun f h => (by cases h), hK10 _ _ ?_⟩
      repeat (first | gi_guarded | gi_step | gi_upon | gi_back)
      exact hrest _ _ _ _ _ _ _ _ _ _ _ _ _ _ _ M _ (by rw [HD0.out]; exact hJ k _ _ _ hjM (Holds.of_keeps hk3 _)) (hX2.later hk3) (hw2.later hk3) (fun r h => ⟨(hM2 r h).1, Nat.lt_of_lt_of_le (hM2 r h).2 hk3.size⟩) (fun r h => .inl h) hpM (Holds.of_keeps (Keeps.next hk2 hk3) _)
    · have b0 : ((jz : Int) != 0) = true := by simp [hc]
      have hD1 := HDy.out (by rw [Hjz.out]; exact hc) hc2
      have HD1 := Lib.hid hD1
      have hiw := Hiw.out
      rw [hc2] at hiw
      clear hc hc2 hD1
      repeat (first | gi_guarded | gi_step | gi_upon | gi_back)
      refine ⟨trivial, (callsIn_wide.2 (hiw _ hrd)).mono ?_⟩
      rintro e Y3 ⟨rfl, hk3⟩
      have cB := (hX2.later hk3).hy.cell 0
      simp only [List.getElem?_toArray, List.getElem?_cons_zero] at cB
      have hw3 := hw2.later hk3
      have hb := bits_or_64 T jz hT (by have := Hnz.out; rw [Hjz.out] at this; omega)
      have hsC : (Try.prog.info? 92).map (·.size) = some C.size := by rw [HC.out]; exact sizeC W (by omega)
      have hM3 : ∀ r, M r → B + 2 ≤ r ∧ r < Y3.heap.size := fun r h => ⟨(hM2 r h).1, Nat.lt_of_lt_of_le (hM2 r h).2 hk3.size⟩
      have hk3s := hk3.size
      have hXs3 : X.heap.size < Y3.heap.size := hw3.lt
      have hat : xs[k]? = some (W, T ||| jz) := Hl.out.left 0 _ (by rw [HD1.out, Hjz.out]; rfl)
      obtain ⟨fn, tmps, assign, body, hy, hR⟩ := hY k _ M Y3 hat (hJ k _ _ _ hjM (Holds.of_keeps hk3 _)) (fun r h => ⟨by have := (hM3 r h).1; omega, (hM3 r h).2⟩) (hH.trans (Holds.of_keeps (Keeps.next hk2 hk3) _))
      simp only [] at hy
      rw [← HC.out] at hy
      have Hfin := Lib.hid hrest
      clear hrest hY hat
      dsimp only
      repeat (first | (refine in_load_row' rfl 92 _ rfl X.heap.size rfl 92 C _ hw3 Try.underlying92 rfl hsC ?_) | gi_guarded | gi_step | gi_upon | gi_back)
      refine hR.mono ?_
      rintro e X' ⟨M2, m1, m2, hh2, hend⟩
      clear hy hR
      have hX4 := (hX2.later hk3).keep hh2 hM3 k1 k2 k3
      have hw4 := hw3.holds hh2 (.inr ⟨by omega, hpM⟩)
      have hMB : ∀ r, M2 r → B + 2 ≤ r ∧ r < X'.heap.size := fun r hr => ⟨(m2 r hr).elim (fun h => (hM3 r h).1) (fun h => by omega), m1 r hr⟩
      have hMX : ∀ r, M2 r → M r ∨ X.heap.size ≤ r := fun r hr => (m2 r hr).imp id (fun h => by omega)
      have hHX := (Holds.of_keeps (Keeps.next hk2 hk3) (fun r => K r ∨ (B ≤ r ∧ ¬ M r))).trans hh2
      rcases hend with ⟨rfl, hj2⟩ | ⟨rfl, hj2⟩
      · dsimp only
        repeat (first | gi_guarded | gi_step | gi_upon | gi_back)
        exact Hfin.out _ _ _ _ _ _ _ _ _ _ _ _ _ _ _ M2 _ (by rw [HD1.out]; exact hj2) hX4 hw4 hMB hMX (fun h => (m2 _ h).elim hpM (fun h => by omega)) hHX
      · dsimp only
        repeat (first | gi_guarded | gi_step | gi_upon | gi_back)
        exact bodyPost_ret (results_tmp Try.results64 _ _ _) rfl ⟨M2, hMB, hMX, hHX, hX4, .inr ⟨rfl, _, hj2⟩⟩
end Go.Proofs.Ytngonghgkeobhaa
