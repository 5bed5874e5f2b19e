/- The walks of rungs, an iterator that hands over values of the ladder, and of Gaps. -/
import Derived.Test.YtfekggmdhmkemaaDoorGd
import Derived.Laws.IdiomStrings
import Derived.Laws.BytesArg
import Derived.Sort.CutIn
namespace Go.Proofs.YtfekggmdhmkemaaDoor
open Go.RowKit Go.Shelf
set_option linter.unusedVariables false
set_option linter.unusedSimpArgs false
attribute [local go_sem] Oper.semAt_some

/-- n positions from the first one up. -/
def ups (first : Int) (n : Nat) : List Int := (List.range n).map fun i : Nat => first + i
theorem ups_at (first : Int) (n k : Nat) (h : k < n) : (ups first n)[k]? = some (first + k) := by simp [ups, h]
theorem ups_length (first : Int) (n : Nat) : (ups first n).length = n := by simp [ups]
theorem ups_of (first : Int) (n k : Nat) (x : Int) (h : (ups first n)[k]? = some x) : k < n ∧ x = first + k := by
  have hk : k < n := by have := (List.getElem?_eq_some_iff.1 h).1; rwa [ups_length] at this
  rw [ups_at _ _ _ hk] at h
  exact ⟨hk, (Option.some.inj h).symm⟩
theorem ups_take (f : Int) (n j : Nat) (h : j < n) : (ups f n).take (j + 1) = (ups f n).take j ++ [f + j] := by
  rw [List.take_succ_eq_append_getElem (by rw [ups_length]; exact h)]
  simp [ups]

theorem rungs_c (a b : Int) (w : World) :
    Calls Tryd.prog 45 #[.int .i64 a, .int .i64 b] w fun e w' => e = .returned (.func (.func 61) #[] #[.pointer (some ⟨w.heap.size, 0, none⟩), .pointer (some ⟨w.heap.size + 1, 0, none⟩)]) ∧ (w.alloc (.cells #[.int .i64 a] 3)).alloc (.cells #[.int .i64 b] 3) = w' := by
  go_enter Tryd.func45, Tryd.ntmps45
  go_wp2
  go_ret
  exact ⟨rfl, rfl⟩

def encR (_ : Nat) (k : Int) : Array Value := #[.agg (gv (rungG k))]
set_option maxHeartbeats 4000000 in
set_option maxRecDepth 100000 in
theorem rungs_iter (first last : Int) (h1 : 0 ≤ first) (h2 : last ≤ 1000000) (h3 : first ≤ last + 1) (b1 b2 : Nat) (K : Nat → Prop) (hb1 : K b1) (hb2 : K b2) (w0 : World) (hK : ∀ r, K r → r < w0.heap.size)
    (ha1 : At w0 b1 3 #[.int .i64 first]) (ha2 : At w0 b2 3 #[.int .i64 last]) :
    Iter Tryd.prog 61 #[.pointer (some ⟨b1, 0, none⟩), .pointer (some ⟨b2, 0, none⟩)] encR (fun _ _ _ => True) K (ups first (last + 1 - first).toNat) w0 := by
  intro n q J Jx W hW hsz hJ hJx hY h0
  obtain ⟨m, hm⟩ : ∃ m : Nat, m = (last + 1 - first).toNat := ⟨_, rfl⟩
  rw [← hm] at hY ⊢
  have hme : (m : Int) = last + 1 - first := by omega
  have HJ := Lib.hid hJ
  have HJx := Lib.hid hJx
  have HY := Lib.hid hY
  have cF := (ha1.holds hW hb1).cell 0
  simp only [List.getElem?_toArray, List.getElem?_cons_zero] at cF
  have hF1 : b1 < W.heap.size := by have := hK b1 hb1; omega
  have hF2 : b2 < W.heap.size := by have := hK b2 hb2; omega
  have hKW : ∀ r, K r → r < W.heap.size := fun r hr => by have := hK r hr; omega
  have Hme := Lib.hid hme
  clear hJ hJx hY hm hme
  rw [show (#[Value.func (.yield q) #[] #[]] ++ #[Value.pointer (some ⟨b1, 0, none⟩), Value.pointer (some ⟨b2, 0, none⟩)] : Array Value) = #[.func (.yield q) #[] #[], .pointer (some ⟨b1, 0, none⟩), .pointer (some ⟨b2, 0, none⟩)] from rfl]
  refine (callsIn_wide (n := n + 1)).1 ?_
  refine callsIn_of_wp Tryd.func61 rfl trivial ?_ rfl
  simp only [Tryd.ntmps61, List.size_toArray, List.length_cons, List.length_nil, Nat.reduceAdd, Nat.reduceSub, Array.replicate_succ, Array.replicate_zero, List.push_toArray, List.append_toArray, List.nil_append, List.cons_append]
  gi_wp2_with fail
  gi_loopw [4] (fun s wr => ∃ (k : Nat) (M : Nat → Prop), k ≤ m ∧ s = .int .i64 (first + k) ∧ J k M wr ∧ (∀ r, M r → W.heap.size ≤ r ∧ r < wr.heap.size) ∧ Holds K W wr) (fun s _ => (m - (intOf s - first).toNat))
  case atStart => exact ⟨0, fun _ => False, Nat.zero_le _, by simp, h0, fun r h => h.elim, Holds.refl _ _⟩
  case round =>
    obtain ⟨k, M, hkm, rfl, hj, hM, hh⟩ := hrel
    have hKr := hW.trans hh
    have cL := (ha2.holds hKr hb2).cell 0
    simp only [List.getElem?_toArray, List.getElem?_cons_zero] at cL
    have hmm := Hme.out
    by_cases hlt : k < m
    · have hd : decide (first + (k : Int) ≤ last) = true := by simp; omega
      have hx := ups_at first m k hlt
      have Hx := Lib.hid hx
      have hrg := fun x => rung_c (first + k) (by omega) (by omega) x
      have hfk : IntKind.i64.wrap (first + (k : Int) + 1) = first + (k : Int) + 1 := IntWalk.i64_in _ (by omega)
      clear hx
      have Hmm := Lib.hid hmm
      clear hmm
      gi_wp2_with fail
      refine ⟨trivial, (callsIn_wide.2 (hrg _)).mono ?_⟩
      rintro e w1 ⟨rfl, hk1⟩
      have hz1 := hk1.size
      obtain ⟨fn, tmps, assign, body, hy, hR⟩ := HY.out k (first + k) M w1 Hx.out (HJ.out _ _ _ _ hj (Holds.of_keeps hk1 _)) (fun r hr => ⟨(hM r hr).1, Nat.lt_of_lt_of_le (hM r hr).2 hk1.size⟩) (hh.trans (Holds.of_keeps hk1 _)) trivial
      rw [show encR W.heap.size (first + k) = #[.agg (gv (rungG (first + k)))] from rfl] at hy
      clear hrg cL
      gi_wp2_with fail
      refine hR.mono ?_
      rintro e X' ⟨M2, m1, m2, hh2, hend⟩
      clear hy hR
      have hMb : ∀ r, M2 r → W.heap.size ≤ r ∧ r < X'.heap.size := fun r hr => ⟨(m2 r hr).elim (fun h => (hM r h).1) (fun h => by have := hh.size; omega), m1 r hr⟩
      have hKX : Holds K W X' := (hh.trans (Holds.of_keeps hk1 _)).trans2 hh2 (fun r _ h => .inl h)
      rcases hend with ⟨rfl, hj2⟩ | ⟨rfl, hj2⟩
      · gi_wp2_with fail
        go_roundw
        case rel => exact ⟨k + 1, M2, by omega, by congr 1; omega, hj2, hMb, hKX⟩
        case measure => simp [intOf]; have := Hmm.out; omega
      · gi_wp2_with fail
        go_end0
        exact ⟨⟨_, rfl⟩, M2, hMb, .inr ⟨_, hj2⟩⟩
    · obtain rfl : k = m := by omega
      have hd : decide (first + (k : Int) ≤ last) = false := by simp; omega
      clear hmm
      gi_wp2_with fail
      refine ⟨trivial, ?_⟩
      gi_wp2_with fail
      refine ⟨fun _ h => (by cases h), ?_⟩
      gi_wp2_with fail
      go_end0
      exact ⟨⟨_, rfl⟩, M, hM, .inl (by rw [ups_length]; exact hj)⟩

def bytes (l : List UInt8) : List Value := l.map fun c => Value.int .u8 c.toNat
theorem bytes_length (l : List UInt8) : (bytes l).length = l.length := by simp [bytes]
theorem bytes_append (a b : List UInt8) : bytes (a ++ b) = bytes a ++ bytes b := by simp [bytes]
theorem bytes_one (l : List UInt8) : ∀ u ∈ bytes l, u.oneCell' = true := by
  intro u hu
  obtain ⟨_, _, rfl⟩ := List.mem_map.1 hu
  rfl
theorem infoB : (Tryd.prog.info? 5).map (fun i => (i.zero, i.size, i.bytes)) = some (some (.int .u8 0), 1, 1) := by kernel_rfl
theorem str_own {w : World} {base : Nat} {v : Value} {n : Nat} {l : List UInt8} (h : w.ownsRow base 5 1 v n (bytes l)) :
    (convert 56 9 v).run Tryd.prog w = .ok (.string ⟨l.toArray⟩) w := by
  have hn : l.length = n := by have := h.1; simpa [bytes] using this
  rcases h.2 with ⟨rfl, h0⟩ | ⟨g, cap, cur, rfl, _, hg, hc, _, hs, ht⟩
  · have : l = [] := List.eq_nil_of_length_eq_zero (by omega)
    subst this
    exact run_convert_bytes_nil w 56 5 Tryd.underlying56 Tryd.underlying5 _ _ _ Tryd.underlying9
  · subst hn
    refine run_convert_bytes_back w 56 9 5 ⟨g, 0, none⟩ cap l Tryd.underlying56 Tryd.underlying5 Tryd.underlying9 fun j hj => ?_
    have hx := h.cellAt j (by omega)
    rw [show (⟨g, 0, none⟩ : Addr).add j = ⟨g, j, none⟩ from by unfold Addr.add; split <;> simp_all, hx, bytes, List.getElem?_map, List.getElem?_eq_getElem hj]
    rfl
theorem in_append_lies {F : Fence} {n : Nat} {P : Program} (w : World) {ops : Array Oper} {rest : List Oper} {o : Oper} {a : Act} {Q : Exit → Act → World → Prop}
    (hg : o.guard = none) (s x : Operand) (t : TypeId) (hop : o.op = Op.call { callee := Callee.builtin Builtin.append, args := #[s, x], argTypes := #[t, t] })
    (base : Nat) (e : TypeId) (i : TypeInfo) (z : Value) (size bytes : Nat) (h1 : P.underlying t = some (.slice e)) (h2 : P.info? e = some i) (h3 : i.zero = some z) (h4 : i.size = size) (h5 : i.bytes = bytes) (h6 : z.cells.size = size) (h7 : 0 < size)
    (v : Value) (k : Nat) (xs : List Value) (hs : a.eval s = v) (hown : w.ownsRow base e size v k xs) (ad : Addr) (m c : Nat) (news : List Value) (hx : a.eval x = .slice (some ad) m c) (hn : news.length = m * size)
    (hc : ∀ j u, news[j]? = some u → w.cell? (ad.add j) = some u) (h1c : ∀ u ∈ news, u.oneCell' = true) (hm : 0 < m) (b1 : k + m ≤ maxLen) (b2 : (k + m) * bytes ≤ 140737488355328) (b3 : base ≤ w.heap.size)
    (hK : ∀ g cap w', w'.ownsRow base e size (.slice (some ⟨g, 0, none⟩) (k + m) cap) (k + m) (xs ++ news) → w.grownBy w' v.ownBlock → (v.ownBlock = some g ∨ g = w.heap.size) → g < w'.heap.size → wpListIn F n P ops Q rest (a.put o.dst (.slice (some ⟨g, 0, none⟩) (k + m) cap)) w') :
    wpListIn F n P ops Q (o :: rest) a w := by
  refine wpListIn_plain hg fun K hK' => ?_
  obtain ⟨g, cap, w', hrun, r1, r2, r3, r4⟩ := run_append_lies (P := P) w t o.type base e i z size bytes h1 h2 h3 h4 h5 h6 h7 v k xs hown ad m c news hn hc h1c hm b1 b2 b3 _ rfl
  unfold Oper.wpIn
  refine ⟨?_, ?_⟩
  · simp [Oper.about, hop, resolve, Target.leads, Sem.run_pure]
  · rw [Oper.semAt_plain F _ _ (by rw [hop]; intro c hc'; cases hc')]
    simp [execOp, hop, resolve, invoke, builtin, hs, hx, hrun, Result.andThen]
    exact hK' _ _ (hK _ _ _ r1 r2 r3 r4)
/-- The letters of the first n steps of the ladder. -/
def gapB (j : Int) : Bool := decide ((rungG (1 + j)).1 - (rungG j).1 = 1) && decide ((rungG (1 + j)).2 - (rungG j).2 = 0)
def gapL (j : Int) : UInt8 := if gapB j then 76 else 83
def gapsL (n : Nat) : List UInt8 := (List.range n).map fun i : Nat => gapL i
theorem gapsL_succ (n : Nat) : gapsL (n + 1) = gapsL n ++ [gapL n] := by simp [gapsL, List.range_succ]
theorem gapsL_length (n : Nat) : (gapsL n).length = n := by simp [gapsL]
theorem foldl_same {α β : Type} (f : β → α → β) (b : β) (l : List α) (h : ∀ x ∈ l, f b x = b) : l.foldl f b = b := by
  induction l with
  | nil => rfl
  | cons x l ih => rw [List.foldl_cons, h x (by simp)]; exact ih (fun y hy => h y (by simp [hy]))
theorem rgJ_zero (j : Nat) (hj : j ≤ 40) : rgJ 0 j = (0, (0, 0)) := by
  induction j with
  | zero => rfl
  | succ j ih =>
    rw [rgJ_succ 0 j (by omega), ih (by omega)]
    have hq := posP_pos (39 - j) (by omega)
    rw [show ((39 - j : Nat) : Int) = 39 - (j : Int) by omega] at hq
    unfold rgS
    rw [if_neg (by simp only; omega)]
theorem rungG_zero : rungG 0 = (0, 0) := by rw [rungG, rgJ_zero 40 (by decide)]
theorem rungG_sm (k : Int) (hk : 0 ≤ k) : sm 1000000000000 (rungG k).1 ∧ sm 1000000000000 (rungG k).2 := by
  have := rgJ_in k hk 40 (by decide)
  unfold rungG
  exact ⟨sm_mono this.2.2.1 (by omega), sm_mono this.2.2.2 (by omega)⟩
end Go.Proofs.YtfekggmdhmkemaaDoor
