/-
  Contracts: settle, Append, Sync, Replace.
-/
import Derived.Test.YtcmnjiichkcmgaaActs
import Derived.Test.YtcmnjiichkcmgaaNames
namespace Go.Proofs.Ytcmnjiichkcmgaa
open Go.RowKit Go.Maps

/-- What an act leaves. -/
def Did (w w' : World) (pb : Nat) (fp : Nat → Prop) (N : Nat) (F : Tab) : Prop := Turned fp w w' ∧ Disk w' pb (grow fp w w') N F
def more (F : Tab) (k : Key) (N : Nat) : Nat := if (F k).isSome then N else N + 1

theorem DiskV.less {w : World} {pb N : Nat} {fp : Nat → Prop} {F : Tab} {V : Key → Value} {ok ok' : Key → Prop} (h : DiskV w pb fp N F V ok) (hs : ∀ k, ok' k → ok k) : DiskV w pb fp N F V ok' := by
  obtain ⟨h1, hp, h⟩ := h
  refine ⟨h1, hp, ?_⟩
  rcases h with h1 | ⟨mb, D, h1, hn, H⟩
  · exact .inl h1
  · exact .inr ⟨mb, D, h1, hn, { H with own := fun k l s hk => H.own k l s (hs k hk) }⟩

/-- Nothing is done. -/
theorem Did.none {w : World} {pb N : Nat} {fp : Nat → Prop} {F : Tab} (h : Disk w pb fp N F) : Did w w pb fp N F := by
  refine ⟨Turned.refl _ _, h.wider (fun i hi => .inl hi) ?_⟩
  obtain ⟨V, hsz, _⟩ := h
  rintro i (hi | hi)
  · exact hsz i hi
  · exact hi.2
/-- Blocks are made ahead. -/
theorem Did.ahead {w w1 w' : World} {pb N : Nat} {fp : Nat → Prop} {F : Tab} (hb : Turned (fun _ => False) w w1) (h : Did w1 w' pb fp N F) : Did w w' pb fp N F := by
  obtain ⟨ht, hd⟩ := h
  refine ⟨(hb.mono (fun _ _ h => h.elim)).trans ht (fun _ _ h => h), hd.wider ?_ ?_⟩
  · rintro i (hi | hi)
    · exact .inl hi
    · exact .inr ⟨Nat.le_trans hb.size hi.1, hi.2⟩
  · rintro i (hi | hi)
    · obtain ⟨V, hsz, _⟩ := hd
      exact hsz i (.inl hi)
    · exact hi.2
/-- Blocks are made, and only the row that put is handed turns ahead of put. -/
theorem Did.of_put {w w1 w' : World} {pb N : Nat} {fp : Nat → Prop} {F : Tab} {v : Value} (hb : Turned fp w w1) (hv : ∀ g, v.ownBlock = some g → g < w1.heap.size ∧ (fp g ∨ w.heap.size ≤ g)) (ht : Turned fp w1 w')
    (hd : Disk w' pb (fun i => fp i ∨ v.ownBlock = some i ∨ (w1.heap.size ≤ i ∧ i < w'.heap.size)) N F) : Did w w' pb fp N F := by
  refine ⟨hb.trans ht (fun _ _ h => h), hd.wider ?_ ?_⟩
  · rintro i (hi | hi | hi)
    · exact .inl hi
    · obtain ⟨h1, h2 | h2⟩ := hv i hi
      · exact .inl h2
      · exact .inr ⟨h2, Nat.lt_of_lt_of_le h1 ht.size⟩
    · exact .inr ⟨Nat.le_trans hb.size hi.1, hi.2⟩
  · rintro i (hi | hi)
    · obtain ⟨V, hsz, _⟩ := hd
      exact hsz i (.inl hi)
    · exact hi.2

theorem below_turned {w w' : World} (h : Below w.heap.size w w') : Turned (fun _ => False) w w' := Turned.of_below h (fun i h1 h2 => by omega)

/-- delete of a nil map's. -/
theorem wpList_delete_nil {P : Program} {w : World} {ops : Array Oper} {rest : List Oper} {o : Oper} {a : Act} {Q : Exit → Act → World → Prop} (hg : o.guard = none) (m x : Operand) (t k : TypeId) (hop : o.op = Op.call { callee := Callee.builtin Builtin.delete, args := #[m, x], argTypes := #[t, k] })
    (e : TypeId) (K : Keyed P k) (ht : P.underlying t = some (.map k e)) (hm : a.eval m = .map none) (key : Value) (kl : Lit) (hx : a.eval x = key) (hkey : keyOf P k key = some kl)
    (hK : wpList P ops Q rest (a.put o.dst (.tuple #[])) w) : wpList P ops Q (o :: rest) a w := by
  refine wpList_plain hg fun K' hK' => ?_
  have hrun := Maps.drop_nil (w := w) K ht hkey o.type
  unfold Oper.wp
  simp [execOp, hop, resolve, invoke, builtin, hm, hx, hrun, Result.andThen]
  exact hK' _ _ hK

set_option maxRecDepth 100000 in
theorem settle_none_some (pb mb n : Nat) (s : ByteArray) (a : Option Addr) (c : Nat) (D : DataW Value) (w : World) (hc : w.cell? ⟨pb, 0, none⟩ = some (.map (some mb))) (hs : s.size ≤ maxLen) (hm : w.ownsMap Try.prog 9 RV mb n D) :
    Calls Try.prog 32 #[.pointer (some ⟨pb, 0, none⟩), .string s, .slice a 0 c] w fun e w' => e = .returned (.tuple #[]) ∧ w'.ownsMap Try.prog 9 RV mb n (D.del (.string (key s))) ∧ w.mapTurned w' mb := by
  have HM : Hid (w.ownsMap Try.prog 9 RV mb n D) := hm
  have HK : Hid (_ = _) := keyOf_name hs
  clear hm hs
  go_enter Try.func32, Try.ntmps32
  go_wp2_with (at_delete; refine wpList_delete_own _ rfl _ _ 51 9 rfl 61 law9 Try.underlying51 _ mb n D rfl HM.out _ _ rfl HK.out ?_; intro w1 hown1 hturn1)
  refine bodyPost_ret (results_none rfl _ _ _) rfl ?_
  exact ⟨rfl, hown1, hturn1⟩
set_option maxRecDepth 100000 in
theorem settle_none_nil (pb : Nat) (s : ByteArray) (a : Option Addr) (c : Nat) (w : World) (hc : w.cell? ⟨pb, 0, none⟩ = some (.map none)) (hs : s.size ≤ maxLen) :
    Calls Try.prog 32 #[.pointer (some ⟨pb, 0, none⟩), .string s, .slice a 0 c] w fun e w' => e = .returned (.tuple #[]) ∧ w' = w := by
  have HK : Hid (_ = _) := keyOf_name hs
  clear hs
  go_enter Try.func32, Try.ntmps32
  go_wp2_with (at_delete; refine wpList_delete_nil rfl _ _ 51 9 rfl 61 law9 Try.underlying51 rfl _ _ rfl HK.out ?_)
  refine bodyPost_ret (results_none rfl _ _ _) rfl ?_
  exact ⟨rfl, rfl⟩

/-- put behind a clone. -/
theorem put_new {pb N n : Nat} {fp : Nat → Prop} {F : Tab} {V : Key → Value} {s : ByteArray} {v' : Value} {l : List (BitVec 8)} {w w1 : World} (hd : DiskV w pb fp N F V all) (hs : s.size ≤ maxLen) (hN : N < 1000000000) (ho : Owns w1 w.heap.size v' l) (hB : Below w.heap.size w w1) :
    Calls Try.prog 34 #[.pointer (some ⟨pb, 0, none⟩), .string s, .agg #[v', .int .i64 (n : Int)]] w1 fun e w' => e = .returned (.tuple #[]) ∧ Did w w' pb fp (more F (key s) N) (upd F (key s) (some (l, n))) := by
  refine (put_any pb N n fp F V s v' l w1 ((hd.kept (below_turned hB) (fun _ _ h => h)).less (fun _ _ => trivial)) hs hN (owns_rebase ho (fun _ _ => Nat.zero_le _)) (fun g hg => .inl (fun hfp => by have h1 := hd.1 g hfp; have h2 := (World.ownsRow.lt ho g hg).1; omega))).mono ?_
  rintro e w2 ⟨rfl, ht, hd2⟩
  exact ⟨rfl, Did.of_put (Turned.mono (below_turned hB) (fun _ _ h => h.elim)) (fun g hg => ⟨(World.ownsRow.lt ho g hg).2, .inr (World.ownsRow.lt ho g hg).1⟩) ht hd2⟩

set_option maxRecDepth 100000 in
theorem settle_full (pb N : Nat) (fp : Nat → Prop) (F : Tab) (s : ByteArray) (a : Option Addr) (n c : Nat) (l : List (BitVec 8)) (w : World) (hd : Disk w pb fp N F) (hs : s.size ≤ maxLen) (hN : N < 1000000000) (hr : ReadsV w (.slice a n c) l) (hl : l.length ≤ 100000000000000) (hn : l.length = n) (hp : 0 < n) :
    Calls Try.prog 32 #[.pointer (some ⟨pb, 0, none⟩), .string s, .slice a n c] w fun e w' => e = .returned (.tuple #[]) ∧ Did w w' pb fp (more F (key s) N) (upd F (key s) (some (l, n))) := by
  obtain ⟨V, hd⟩ := hd
  have HR : Hid (_ ∧ _) := And.intro hr hl
  have HP : Hid (∀ v' w1, Owns w1 w.heap.size v' l → Below w.heap.size w w1 → Calls Try.prog 34 #[.pointer (some ⟨pb, 0, none⟩), .string s, .agg #[v', .int .i64 (n : Int)]] w1 fun e w' => e = .returned (.tuple #[]) ∧ Did w w' pb fp (more F (key s) N) (upd F (key s) (some (l, n)))) :=
    fun v' w1 ho hB => put_new hd hs hN ho hB
  generalize more F (key s) N = N' at *
  generalize upd F (key s) (some (l, n)) = F' at *
  have hz : ((n : Int) == 0) = false := by rw [beq_eq_false_iff_ne]; omega
  clear hr hd hl hn hs hN
  go_enter Try.func32, Try.ntmps32
  go_wp2_with (first
    | (go_at_call 27; refine (clone_any _ l _ HR.out.1 HR.out.2).mono ?_; rintro e w1 ⟨v', rfl, ho, hB⟩; obtain ⟨a', c', rfl, _⟩ := ReadsV.of_own ho; have HO : Hid (Owns w1 w.heap.size (.slice a' l.length c') l ∧ Below w.heap.size w w1) := ⟨ho, hB⟩; clear ho hB)
    | (go_at_call 34; refine (HP.out _ _ HO.out.1 HO.out.2).mono ?_; rintro e w2 ⟨rfl, hdid⟩))
  go_end0
  exact ⟨rfl, hdid⟩

theorem settle_any (pb N : Nat) (fp : Nat → Prop) (F : Tab) (s : ByteArray) (v : Value) (l : List (BitVec 8)) (w : World) (hd : Disk w pb fp N F) (hs : s.size ≤ maxLen) (hN : N < 1000000000) (hr : ReadsV w v l) (hl : l.length ≤ 100000000000000) :
    Calls Try.prog 32 #[.pointer (some ⟨pb, 0, none⟩), .string s, v] w fun e w' => e = .returned (.tuple #[]) ∧ Did w w' pb fp (more F (key s) N) (upd F (key s) (if l = [] then none else some (l, l.length))) := by
  have hr' := hr
  obtain ⟨a, c, rfl, _⟩ := hr'
  by_cases h0 : l = []
  · subst h0
    rw [if_pos rfl]
    have hmore : N ≤ more F (key s) N := by unfold more; split <;> omega
    obtain ⟨V, hsz, hp, h⟩ := hd
    rcases h with ⟨h1, h2⟩ | ⟨mb, D, h1, hn, H⟩
    · refine (settle_none_nil pb s a c w (Disk.cell h1) hs).mono ?_
      rintro e w' ⟨rfl, rfl⟩
      refine ⟨rfl, Did.none ⟨V, hsz, hp, .inl ⟨h1, fun k => ?_⟩⟩⟩
      unfold upd; split
      · rfl
      · exact h2 k
    · refine (settle_none_some pb mb _ s a c D w (Disk.cell h1) hs H.map).mono ?_
      rintro e w' ⟨rfl, hm, htu⟩
      obtain ⟨hN', H'⟩ := H.struck hn hm htu
      have ht : Turned fp w w' := Turned.of_grown htu.grown (fun i e => by simp at e; subst e; exact H.mfp)
      refine ⟨rfl, ht, V, ?_, .inl hp, .inr ⟨mb, _, ?_, Nat.le_trans hN' hmore, { H' with mfp := .inl H'.mfp, lies := fun k x hF g hg => ⟨.inl (H'.lies k x hF g hg).1, (H'.lies k x hF g hg).2⟩ }⟩⟩
      · rintro i (hi | hi)
        · exact Nat.lt_of_lt_of_le (hsz i hi) ht.size
        · exact hi.2
      · rw [htu.grown.block pb (hsz pb hp) (by have := H.mne; simp; exact fun e => this e.symm)]
        exact h1
  · rw [if_neg h0]
    exact settle_full pb N fp F s a l.length c l w hd hs hN hr hl rfl (List.length_pos_iff.2 h0)

end Go.Proofs.Ytcmnjiichkcmgaa
