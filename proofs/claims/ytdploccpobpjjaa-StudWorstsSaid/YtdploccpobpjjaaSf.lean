/- The walk of clearOrders: an iterator that hands over all clear orders. -/
import Derived.Test.YtdploccpobpjjaaSe
import Derived.Laws.CopyOwn
namespace Go.Proofs.Ytdploccpobpjjaa
open Go.RowKit Go.Shelf
set_option linter.unusedVariables false
attribute [local go_sem] Oper.semAt_some

theorem makeD1 (w : World) : (Instr.makeSlice 22 (.int .i64 1) (.int .i64 1)).run Try.prog w = .ok (.slice (some ⟨w.heap.size, 0, none⟩) 1 1) (w.alloc (.cells (ic (List.replicate 1 0)) 3)) := by kernel_rfl
theorem makeD2 (w : World) : (Instr.makeSlice 22 (.int .i64 2) (.int .i64 2)).run Try.prog w = .ok (.slice (some ⟨w.heap.size, 0, none⟩) 2 2) (w.alloc (.cells (ic (List.replicate 2 0)) 3)) := by kernel_rfl
theorem makeD3 (w : World) : (Instr.makeSlice 22 (.int .i64 3) (.int .i64 3)).run Try.prog w = .ok (.slice (some ⟨w.heap.size, 0, none⟩) 3 3) (w.alloc (.cells (ic (List.replicate 3 0)) 3)) := by kernel_rfl
theorem makeD4 (w : World) : (Instr.makeSlice 22 (.int .i64 4) (.int .i64 4)).run Try.prog w = .ok (.slice (some ⟨w.heap.size, 0, none⟩) 4 4) (w.alloc (.cells (ic (List.replicate 4 0)) 3)) := by kernel_rfl
theorem makeD5 (w : World) : (Instr.makeSlice 22 (.int .i64 5) (.int .i64 5)).run Try.prog w = .ok (.slice (some ⟨w.heap.size, 0, none⟩) 5 5) (w.alloc (.cells (ic (List.replicate 5 0)) 3)) := by kernel_rfl
theorem makeD6 (w : World) : (Instr.makeSlice 22 (.int .i64 6) (.int .i64 6)).run Try.prog w = .ok (.slice (some ⟨w.heap.size, 0, none⟩) 6 6) (w.alloc (.cells (ic (List.replicate 6 0)) 3)) := by kernel_rfl
theorem makeD7 (w : World) : (Instr.makeSlice 22 (.int .i64 7) (.int .i64 7)).run Try.prog w = .ok (.slice (some ⟨w.heap.size, 0, none⟩) 7 7) (w.alloc (.cells (ic (List.replicate 7 0)) 3)) := by kernel_rfl
theorem makeD (d : Nat) (h1 : 1 ≤ d) (h5 : d ≤ 7) (w : World) : (Instr.makeSlice 22 (.int .i64 d) (.int .i64 d)).run Try.prog w = .ok (.slice (some ⟨w.heap.size, 0, none⟩) d d) (w.alloc (.cells (ic (List.replicate d 0)) 3)) := by
  have : d = 1 ∨ d = 2 ∨ d = 3 ∨ d = 4 ∨ d = 5 ∨ d = 6 ∨ d = 7 := by omega
  rcases this with rfl | rfl | rfl | rfl | rfl | rfl | rfl
  · exact makeD1 w
  · exact makeD2 w
  · exact makeD3 w
  · exact makeD4 w
  · exact makeD5 w
  · exact makeD6 w
  · exact makeD7 w
set_option maxHeartbeats 2000000 in
theorem clearOrders_c (A : Option Addr) (m c : Nat) (d : Int) (w : World) :
    Calls Try.prog 40 #[.slice A m c, .int .i64 d] w fun e w' => e = .returned (.func (.func 45) #[] #[.pointer (some ⟨w.heap.size + 1, 0, none⟩), .pointer (some ⟨w.heap.size, 0, none⟩)]) ∧ (w.alloc (.cells #[.slice A m c] 22)).alloc (.cells #[.int .i64 d] 3) = w' := by
  go_enter Try.func40, Try.ntmps40
  go_wp2
  go_ret
  exact ⟨rfl, rfl⟩

/-- Copying ints into a row of ints of its own. -/
theorem copy_into {P : Program} {w : World} {ops : Array Oper} {rest : List Oper} {o : Oper} {a : Act} {Q : Exit → Act → World → Prop} (hgd : o.guard = none) (d s : Operand) (dT sT : TypeId)
    (ho : o.op = .call { callee := .builtin .copy, args := #[d, s], argTypes := #[dT, sT] }) (elem : TypeId) (hu : P.underlying dT = some (.slice elem)) (hsz : (P.info? elem).map (·.size) = some 1)
    (g dCap : Nat) (lst : List Int) (A : Option Addr) (c : Nat) (l : List Int) (hd : a.eval d = .slice (some ⟨g, 0, none⟩) lst.length dCap) (hs : a.eval s = .slice A l.length c) (hfit : l.length ≤ lst.length)
    (t : TypeId) (hg : At w g t (ic lst)) (hv : RdI w (.slice A l.length c) l)
    (h : ∀ w', At w' g t (ic (l ++ lst.drop l.length)) → Holds (fun r => r ≠ g) w w' → w'.heap.size = w.heap.size → wpList P ops Q rest (a.put o.dst (goInt l.length)) w') : wpList P ops Q (o :: rest) a w := by
  rcases Nat.eq_zero_or_pos l.length with h0 | h0
  · obtain rfl := List.eq_nil_of_length_eq_zero h0
    refine wpList_copy_nothing hgd d s dT sT ho elem hu hsz _ A lst.length dCap 0 c hd hs (Nat.zero_min _) ?_
    exact h w (by simpa using hg) (Holds.refl _ _) rfl
  · obtain ⟨A', c', hA, hm, hc⟩ := hv
    cases hA
    obtain ⟨b, off, u, rfl, hcell, hu0⟩ := hc 0 h0
    have hall : ∀ k, k < l.length → w.cell? ⟨b, off + k, none⟩ = some (.int .i64 (nth l k)) := fun k hk => by
      obtain ⟨b', off', u', hA, hcell', hu'⟩ := hc k hk
      cases hA
      rw [hcell', hu']
    refine wpList_copy_own hgd d s dT sT ho elem hu hsz g 0 lst.length dCap ⟨b, off, none⟩ l.length c hd hs (ic lst) t hg (l.map (Value.int .i64)) (by rw [List.length_map, show l.length.min lst.length = min l.length lst.length from rfl]; omega) (fun j v hj => ?_) (by simp [ic]; omega) (fun v hv => ?_) ?_
    · have hjl := (List.getElem?_eq_some_iff.1 hj).1
      rw [List.length_map] at hjl
      rw [show ((⟨b, off, none⟩ : Addr).add j) = ⟨b, off + j, none⟩ from by unfold Addr.add; split <;> simp_all, hall j hjl]
      rw [← hj]; simp [nth, hjl]
    · obtain ⟨x, _, rfl⟩ := List.mem_map.1 hv; rfl
    · rw [List.length_map]
      refine h _ ?_ ((Holds.refl _ w).row g (by simp) _) (by simp [World.setRow])
      have := At.row hg (((ic lst).toList.take 0 ++ (l.map (Value.int .i64) ++ (ic lst).toList.drop (0 + l.length)))).toArray
      simpa [ic] using this

set_option maxHeartbeats 4000000 in
set_option maxRecDepth 100000 in
/-- All clear orders with the given beginning. -/
theorem clr_iter (d : Nat) (h1 : 1 ≤ d) (h5 : d ≤ 7) (A : Option Addr) (c : Nat) (start : List Int) (hlen : start.length ≤ d) (hall : start.all (hasB d) = true) (hcap : start.length ≤ c) (bd bs : Nat) (K : Nat → Prop) (hbd : K bd) (hbs : K bs) (w0 : World) (hK : ∀ r, K r → r < w0.heap.size) (hd : At w0 bd 3 #[.int .i64 d]) (hs : At w0 bs 22 #[.slice A start.length c])
    (hv : ∀ X', Holds K w0 X' → RdI X' (.slice A start.length c) start) :
    Iter Try.prog 45 #[.pointer (some ⟨bd, 0, none⟩), .pointer (some ⟨bs, 0, none⟩)] (fun B (_ : List Int) => #[.slice (some ⟨B + 1, 0, none⟩) d d]) (fun B x W1 => At W1 (B + 1) 3 (ic x)) K (clrs start d) w0 := by
  intro n l J Jx W hW hsz hJ hJx hY h0
  have hdW := hd.holds hW hbd
  have hsW := hs.holds hW hbs
  have hKW : ∀ r, K r → r < W.heap.size := fun r hr => by have := hK r hr; omega
  have hHv := Lib.hid hv
  have Hlen := Lib.hid hlen
  have Hall := Lib.hid hall
  have hplace := place_c (n := n + 1) (l := l) (B := W.heap.size) (d := d) (bd := bd) (K := K) (J := J) (Jx := Jx) (xs := clrs start d) h5 hbd hKW W hJ hJx hY
    (d - start.length) start 0 (fun _ => False)
  have Hplace := Lib.hid hplace
  have HJ := Lib.hid hJ
  have HY := Lib.hid hY
  have hmk := makeD d h1 h5
  have hlow := low_all _ d (by omega) hall
  have hic := fun x hx => isClear_c A c start hlow x hcap hx
  have Hcl : Hid (clrs start d = if clearB start then cext d (d - start.length) start else []) := Lib.hid rfl
  have c0 : ∀ o, (W.alloc o).cell? ⟨bd, 0, none⟩ = some (.int .i64 d) := fun o => (hdW.alloc o).cell 0
  have c1 : ∀ o1 o2 o3, (((W.alloc o1).alloc o2).alloc o3).cell? ⟨bs, 0, none⟩ = some (.slice A start.length c) := fun o1 o2 o3 => (((hsW.alloc o1).alloc o2).alloc o3).cell 0
  have hdl : (List.replicate d (0 : Int)).length = d := by simp
  clear hplace hJ hJx hY hv hlen hall
  rw [show (#[Value.func (.yield l) #[] #[]] ++ #[Value.pointer (some ⟨bd, 0, none⟩), Value.pointer (some ⟨bs, 0, none⟩)] : Array Value) = #[.func (.yield l) #[] #[], .pointer (some ⟨bd, 0, none⟩), .pointer (some ⟨bs, 0, none⟩)] from rfl]
  cases hC : clearB start
  all_goals
    rw [hC] at hic Hcl
    clear hC
    go_enter Try.func45, Try.ntmps45
    go_wp2_with (
      first
      | (refine copy_into rfl _ _ 22 22 rfl 3 Try.underlying22 (by kernel_rfl) (W.heap.size + 1) d (List.replicate d 0) A c start (by rw [hdl]; rfl) rfl (by rw [hdl]; exact Hlen.out) 3 (((At.new2 W _ _ _).alloc _)) (hHv.out _ (hW.trans ((((Holds.refl K W).alloc _).alloc _).alloc _))) ?_
         intro w1 hl1 hh1 hsz1'
         have hd1 : At w1 bd 3 #[.int .i64 d] := ((((hdW.alloc _).alloc _).alloc _)).holds hh1 (by have := hKW bd hbd; omega)
         have hs1 : At w1 bs 22 #[.slice A start.length c] := ((((hsW.alloc _).alloc _).alloc _)).holds hh1 (by have := hKW bs hbs; omega)
         have hy1 : At w1 W.heap.size 37 #[.func (.yield l) #[] #[]] := ((((At.new W _ _).alloc _).alloc _)).holds hh1 (by omega)
         have hb1 : At w1 (W.heap.size + 2) 22 #[.slice (some ⟨W.heap.size + 1, 0, none⟩) d d] := (At.new' _ _ (by simp) _ _).holds hh1 (by omega)
         have hsz1 : w1.heap.size = W.heap.size + 3 := by rw [hsz1']; simp
         have hK1 : Holds (fun r => r < W.heap.size) W w1 := ((((Holds.refl _ W).alloc _).alloc _).alloc _).trans2 hh1 (fun r hr _ => by omega)
         have c5 := fun o => (hs1.alloc o).cell 0
         simp only [List.getElem?_toArray, List.getElem?_cons_zero] at c5
         clear c0 c1 hh1 hsz1')
      | (go_at_call 21
         refine (hic _ (hHv.out _ (((hW.trans (hK1.mono (fun r _ h => hKW r h))).alloc _)))).mono ?_
         rintro e w2 ⟨rfl, hb2⟩
         have hP : PSt W.heap.size l d bd start (start ++ (List.replicate d 0).drop start.length) w2 := PSt.later ⟨hd1.alloc _, hy1.alloc _, hl1.alloc _, by have := Hlen.out; simp; omega, by simp, hb1.alloc _, At.new' _ _ (by omega) _ _⟩ hb2
         have hK2 : Holds (fun r => r < W.heap.size) W w2 := (hK1.alloc _).trans (Holds.of_keeps hb2 _)
         have hs2 := (hs1.alloc (.cells #[.func (.func 46) #[] #[.pointer (some ⟨bd, 0, none⟩), .pointer (some ⟨W.heap.size, 0, none⟩), .pointer (some ⟨W.heap.size + 1 + 1, 0, none⟩), .pointer (some ⟨W.heap.size + 3, 0, none⟩)]] 62)).later hb2
         have c6 := hs2.cell 0
         have c7 := hP.hp.cell 0
         have hlt := hP.hp.lt
         simp only [List.getElem?_toArray, List.getElem?_cons_zero] at c6 c7
         clear c5))
  · go_end0
    refine ⟨⟨_, rfl⟩, fun _ => False, fun r h => h.elim, .inl ?_⟩
    rw [Hcl.out]
    exact HJ.out 0 _ _ _ h0 (hK2.mono (fun r _ h => h.elim id (fun h => h.elim)))
  · refine (Hplace.out w2 _ (by have := Hlen.out; omega) Hall.out (fun i x h => by rw [Hcl.out, Nat.zero_add]; exact h) (HJ.out 0 _ _ _ h0 (hK2.mono (fun r _ h => h.elim id (fun h => h.elim)))) (fun r h => h.elim) (hK2.mono (fun r _ h => hKW r h)) hP).mono ?_
    rintro e X' ⟨M', h1', h2', hh, _, hend⟩
    have hb : ∀ r, M' r → W.heap.size ≤ r ∧ r < X'.heap.size := fun r hr => ⟨by have := (h1' r hr).1; omega, (h1' r hr).2⟩
    rcases hend with ⟨rfl, hj⟩ | ⟨rfl, k, hj⟩
    · go_wp2_with fail
      go_end0
      exact ⟨⟨_, rfl⟩, M', hb, .inl (by rw [Hcl.out]; rw [Nat.zero_add] at hj; exact hj)⟩
    · go_wp2_with fail
      go_end0
      exact ⟨⟨_, rfl⟩, M', hb, .inr ⟨k, hj⟩⟩
end Go.Proofs.Ytdploccpobpjjaa
