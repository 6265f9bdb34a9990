/-
  Contracts: Same, Clone, New; what a look into a disk's map gives; Read, Loose.
-/
import Derived.Test.YtcmnjiichkcmgaaPut
import Derived.Laws.BytesString
namespace Go.Proofs.Ytcmnjiichkcmgaa
open Go.RowKit Go.Maps

def bytesOf (F : Tab) (k : Key) : List (BitVec 8) := match F k with | some (l, _) => l | none => []
def syncOf (F : Tab) (k : Key) : Nat := match F k with | some (_, s) => s | none => 0
/-- No more is synced than there is; no file is longer than M. -/
def Fits (F : Tab) (M : Nat) : Prop := ∀ k l s, F k = some (l, s) → s ≤ l.length ∧ l.length ≤ M
theorem Fits.sync {F : Tab} {M : Nat} (h : Fits F M) (k : Key) : syncOf F k ≤ (bytesOf F k).length ∧ (bytesOf F k).length ≤ M := by
  unfold syncOf bytesOf
  cases hF : F k with
  | none => simp
  | some x => obtain ⟨l, s⟩ := x; exact h k l s hF

theorem field0 (a : Option Addr) (n c : Nat) (x : Int) (w : World) : (Instr.field 61 (.agg #[.slice a n c, .int .i64 x]) 0).run Try.prog w = .ok (.slice a n c) w := by kernel_rfl
theorem zero61 (w : World) : (zeroValue 61).run Try.prog w = .ok (.agg #[.slice none 0 0, .int .i64 0]) w := by kernel_rfl

def lookV (F : Tab) (V : Key → Value) (k : Key) : Value := match F k with | some _ => V k | none => .slice none 0 0
/-- What a look into the disk's map gives. -/
theorem DiskV.look {w : World} {pb N : Nat} {fp : Nat → Prop} {F : Tab} {V : Key → Value} {ok : Key → Prop} (h : DiskV w pb fp N F V ok) {s : ByteArray} (hs : s.size ≤ maxLen) (hok : ok (key s)) :
    ∃ mo lv, w.cell? ⟨pb, 0, none⟩ = some (.map mo) ∧ pb < w.heap.size ∧ (Instr.lookup 51 (.map mo) (.string s) false).run Try.prog w = .ok (.agg #[lv, .int .i64 (syncOf F (key s))]) w ∧
      (Instr.lookup 51 (.map mo) (.string s) true).run Try.prog w = .ok (.tuple #[.agg #[lv, .int .i64 (syncOf F (key s))], .bool (F (key s)).isSome]) w ∧ Owns w 0 lv (bytesOf F (key s)) ∧
      (∀ g, lv.ownBlock = some g → ∃ x, F (key s) = some x ∧ (V (key s)).ownBlock = some g) ∧ lv = lookV F V (key s) := by
  obtain ⟨hsz, hp, h⟩ := h
  rcases h with ⟨h1, h2⟩ | ⟨mb, D, h1, hn, H⟩
  · refine ⟨none, .slice none 0 0, Disk.cell h1, hsz pb hp, ?_, ?_, ?_, ?_, ?_⟩
    · have := Maps.look_nil false law9 Try.underlying51 (zero61 w) (keyOf_name hs)
      simpa [syncOf, h2] using this
    · have := Maps.look_nil true law9 Try.underlying51 (zero61 w) (keyOf_name hs)
      simpa [syncOf, h2] using this
    · simp only [bytesOf, h2]; exact Owns.nil _ _
    · intro g hg; simp [Value.ownBlock] at hg
    · simp [lookV, h2]
  · obtain ⟨v, ps, hr1, hv⟩ := H.map.lookup (zd := .held (.agg #[.slice none 0 0, .int .i64 0])) (zp := []) law9 Try.underlying51 (zero61 w) rfl (keyOf_name hs)
    obtain ⟨v2, ps2, hr2, hv2⟩ := H.map.look_ok (zd := .held (.agg #[.slice none 0 0, .int .i64 0])) (zp := []) law9 Try.underlying51 (zero61 w) rfl (keyOf_name hs)
    simp only [RV, Option.some.injEq, Prod.mk.injEq] at hv hv2
    cases hF : F (key s) with
    | none =>
      have hno := H.no _ hF
      rw [atKey_of_not_has hno] at hv hv2
      rw [hno] at hr2
      simp only [DataW.held.injEq] at hv hv2
      obtain ⟨rfl, _⟩ := hv
      obtain ⟨rfl, _⟩ := hv2
      refine ⟨some mb, .slice none 0 0, Disk.cell h1, hsz pb hp, ?_, ?_, ?_, ?_, ?_⟩
      · simpa [syncOf, hF] using hr1
      · simpa [syncOf, hF] using hr2
      · simp only [bytesOf, hF]; exact Owns.nil _ _
      · intro g hg; simp [Value.ownBlock] at hg
      · simp [lookV, hF]
    | some x =>
      obtain ⟨l, t⟩ := x
      have hy := H.yes _ l t hF
      rw [hy] at hv hv2
      rw [has_true_of_atKey hy] at hr2
      simp only [DataW.held.injEq] at hv hv2
      obtain ⟨rfl, _⟩ := hv
      obtain ⟨rfl, _⟩ := hv2
      refine ⟨some mb, V (key s), Disk.cell h1, hsz pb hp, ?_, ?_, ?_, ?_, ?_⟩
      · simpa [syncOf, hF, fileV] using hr1
      · simpa [syncOf, hF, fileV] using hr2
      · simp only [bytesOf, hF]; exact H.own _ l t hok hF
      · intro g hg; exact ⟨_, rfl, hg⟩
      · simp [lookV, hF]

/-- .. and still gives, when blocks have been made. -/
theorem DiskV.look_all {w : World} {pb N : Nat} {fp : Nat → Prop} {F : Tab} {V : Key → Value} {ok : Key → Prop} (h : DiskV w pb fp N F V ok) {s : ByteArray} (hs : s.size ≤ maxLen) (hok : ok (key s)) :
    ∃ mo, ∀ w3, Turned (fun _ => False) w w3 → w3.cell? ⟨pb, 0, none⟩ = some (.map mo) ∧ (Instr.lookup 51 (.map mo) (.string s) false).run Try.prog w3 = .ok (.agg #[lookV F V (key s), .int .i64 (syncOf F (key s))]) w3 ∧ Owns w3 0 (lookV F V (key s)) (bytesOf F (key s)) := by
  obtain ⟨mo, lv, hc, hlt, _⟩ := h.look hs hok
  refine ⟨mo, fun w3 hT => ?_⟩
  obtain ⟨mo', lv', hc', _, hr, _, ho, _, rfl⟩ := (h.kept hT (fun _ _ h => h)).look hs hok
  have : w3.cell? ⟨pb, 0, none⟩ = w.cell? ⟨pb, 0, none⟩ := World.cell?_of_block (hT.block pb hlt (fun h => h))
  rw [this, hc] at hc'
  simp only [Option.some.injEq, Value.map.injEq] at hc'
  subst hc'
  exact ⟨this.trans hc, hr, ho⟩

/-- 'append(v, x...)', and where the new row lies. -/
theorem wpList_append_bytes_at {P : Program} {w : World} {ops : Array Oper} {rest : List Oper} {o : Oper} {a : Act} {Q : Exit → Act → World → Prop} (hgd : o.guard = none) (s x : Operand) (t : TypeId)
    (ho : o.op = .call { callee := .builtin .append, args := #[s, x], argTypes := #[t, t] })
    (base : Nat) (ht : P.underlying t = some (.slice 5)) (hinfo : (P.info? 5).map (fun i => (i.zero, i.size, i.bytes)) = some (some (.int .u8 0), 1, 1))
    (v : Value) (l : List (BitVec 8)) (hs : a.eval s = v) (hown : Owns w base v l)
    (v2 : Value) (l2 : List (BitVec 8)) (hx : a.eval x = v2) (hr : ReadsV w v2 l2) (hlen : l.length + l2.length ≤ 140737488355328) (hbase : base ≤ w.heap.size)
    (h : ∀ v' w', Owns w' base v' (l ++ l2) → w.grownBy w' v.ownBlock → (v'.ownBlock = v.ownBlock ∨ v'.ownBlock = some w.heap.size) → wpList P ops Q rest (a.put o.dst v') w') : wpList P ops Q (o :: rest) a w := by
  obtain ⟨i, hi, hz, hsize, hby⟩ := info_parts hinfo
  obtain ⟨ad, cap, rfl, hnil, _, _, hrd⟩ := hr
  cases ad with
  | none =>
    have hl2 : l2 = [] := by
      rcases hrd.2 with h | ⟨_, _, h, _⟩
      · exact h
      · cases h
    subst hl2
    have hc : cap = 0 := hnil rfl
    subst hc
    have hh := h v w (by simpa using hown) ⟨rfl, rfl, rfl, Nat.le_refl _, fun _ _ _ => rfl⟩ (.inl rfl)
    exact wpList_append_own_none hgd s x t ho base 5 i 1 ht hi v l.length (bytesV l) hs hown hx hh
  | some ad =>
    refine wpList_append_own_at w hgd s x t ho base 5 i (.int .u8 0) 1 1 ht hi hz hsize hby rfl (by decide) v l.length (bytesV l) hs hown ad l2.length cap (bytesV l2) hx (by simp [bytesV_length]) ?_ bytesV_one
      (by unfold maxLen; omega) (by omega) hbase ?_
    · intro j u hj
      obtain ⟨hj1, rfl⟩ := bytesV_getElem hj
      rcases hrd.2 with h0 | ⟨b, off, hb, hc⟩
      · subst h0; simp at hj1
      · cases hb
        rw [add_plain]
        exact hc j hj1
    · intro v' w' h1 h2 _ h4
      refine h v' w' ?_ h2 h4
      show w'.ownsRow base 5 1 v' (l ++ l2).length (bytesV (l ++ l2))
      rw [List.length_append, bytesV_append]; exact h1

/-- What Same holds against each other. -/
def str (l : List (BitVec 8)) : ByteArray := ⟨(l.map fun b => UInt8.ofNat b.toNat).toArray⟩
theorem str_toList (l : List (BitVec 8)) : (str l).toList = l.map fun b => UInt8.ofNat b.toNat := by unfold str; rw [ByteArray.toList_mk]
theorem str_inj {l m : List (BitVec 8)} (h : l.map (fun b => UInt8.ofNat b.toNat) = m.map fun b => UInt8.ofNat b.toNat) : l = m := by
  induction l generalizing m with
  | nil => cases m with
    | nil => rfl
    | cons _ _ => simp at h
  | cons x l ih => cases m with
    | nil => simp at h
    | cons y m =>
      simp only [List.map_cons, List.cons.injEq] at h
      rw [ih h.2]
      have h1 := congrArg UInt8.toNat h.1
      have hx := x.isLt
      have hy := y.isLt
      simp at h1
      rw [BitVec.eq_of_toNat_eq (x := x) (y := y) (by omega)]
theorem str_same (l m : List (BitVec 8)) : ((str l).toList == (str m).toList) = decide (l = m) := by
  rw [str_toList, str_toList]
  by_cases h : l = m
  · subst h; simp
  · rw [decide_eq_false h, beq_eq_false_iff_ne]
    exact fun e => h (str_inj e)
theorem str_push : ∀ (l : List (BitVec 8)) (s : ByteArray), (l.map B).foldl (fun r n => r.push (UInt8.ofNat n.toNat)) s = ⟨s.data ++ (l.map fun b => UInt8.ofNat b.toNat).toArray⟩
  | [], s => by simp
  | b :: l, s => by
    simp only [List.map_cons, List.foldl_cons]
    rw [str_push l]
    simp [ByteArray.push, B]

theorem convert_str {w : World} {a : Option Addr} {n c : Nat} {l : List (BitVec 8)} (h : ReadsV w (.slice a n c) l) : (convert 30 9 (.slice a n c)).run Try.prog w = .ok (.string (str l)) w := by
  obtain ⟨a', c', hv, hn, _, _, hr⟩ := h
  simp only [Value.slice.injEq] at hv
  obtain ⟨rfl, rfl, rfl⟩ := hv
  rw [run_convert_bytes_string w 30 9 5 _ _ _ Try.underlying30 Try.underlying5 Try.underlying9]
  cases a with
  | none =>
    have : l = [] := by
      rcases hr.2 with h | ⟨_, _, h, _⟩
      · exact h
      · cases h
    subst this
    rfl
  | some ad =>
    rw [run_bytesToString w ad l.length c (l.map B) ?_]
    · rw [str_push]; simp [str]
    · have := run_loadCells_list (P := Try.prog) w ad (bytesV l) ?_
      · rw [bytesV_length] at this
        rw [this]
        simp [bytesV]
      · intro j v hj
        obtain ⟨hj1, rfl⟩ := bytesV_getElem hj
        rcases hr.2 with h0 | ⟨b, off, hb, hc⟩
        · subst h0; simp at hj1
        · cases hb
          rw [add_plain]
          exact hc j hj1

set_option maxRecDepth 100000 in
theorem same_any (v u : Value) (l m : List (BitVec 8)) (w : World) (hr : ReadsV w v l) (hq : ReadsV w u m) :
    Calls Try.prog 14 #[v, u] w fun e w' => e = .returned (.bool (decide (l = m))) ∧ w' = w := by
  obtain ⟨a, c, rfl, hrest⟩ := hr
  obtain ⟨a2, c2, rfl, hrest2⟩ := hq
  have h1 := convert_str (w := w) ⟨a, c, rfl, hrest⟩
  have h2 := convert_str (w := w) ⟨a2, c2, rfl, hrest2⟩
  have h3 := str_same l m
  clear hrest hrest2
  go_enter Try.func14, Try.ntmps14
  go_wp2
  go_ret
  exact ⟨rfl, rfl⟩

theorem same_yes (v u : Value) (l : List (BitVec 8)) (w : World) (hr : ReadsV w v l) (hq : ReadsV w u l) :
    Calls Try.prog 14 #[v, u] w fun e w' => e = .returned (.bool true) ∧ w' = w := by
  have := same_any v u l l w hr hq
  rwa [decide_eq_true rfl] at this

theorem eqlS (a : Addr) (n c : Nat) (w : World) : (binOp .eql 30 (.slice (some a) n c) (.slice none 0 0)).run Try.prog w = .ok (.bool false) w := by kernel_rfl
theorem eqlSN (w : World) : (binOp .eql 30 (.slice none 0 0) (.slice none 0 0)).run Try.prog w = .ok (.bool true) w := by kernel_rfl

set_option maxRecDepth 100000 in
theorem clone_any (v : Value) (l : List (BitVec 8)) (w : World) (hr : ReadsV w v l) (hl : l.length ≤ 100000000000000) :
    Calls Try.prog 27 #[v] w fun e w' => ∃ v', e = .returned v' ∧ Owns w' w.heap.size v' l ∧ Below w.heap.size w w' := by
  obtain ⟨a, c, rfl, hrest⟩ := hr
  cases a with
  | none =>
    have h0 : l = [] := by
      rcases hrest.2.2.2.2 with h | ⟨_, _, h, _⟩
      · exact h
      · cases h
    subst h0
    have hc := hrest.1 rfl
    subst hc
    clear hrest
    have e1 := eqlSN
    go_enter Try.func27, Try.ntmps27
    go_wp2
    go_ret
    exact ⟨_, rfl, Owns.nil _ _, Below.refl _ _⟩
  | some a =>
    obtain ⟨n, hn⟩ : ∃ n, l.length = n := ⟨_, rfl⟩
    rw [hn]
    have HR : Hid (ReadsV w (.slice (some a) n c) l) := ⟨some a, c, by rw [hn], hrest⟩
    have HL : Hid (([] : List (BitVec 8)).length + l.length ≤ 140737488355328) := by show 0 + l.length ≤ _; omega
    have e1 := eqlS a n c
    clear hrest hl hn
    go_enter Try.func27, Try.ntmps27
    go_wp2_with (at_builtin; refine wpList_append_bytes rfl (.tmp 5) (.tmp 6) 30 rfl w.heap.size Try.underlying30 Try.info5 _ [] rfl (World.ownsRow_made w #[] 0 (Nat.le_refl _) (by decide) rfl) _ l rfl (HR.out.below (Below.alloc (Below.refl _ _) (Nat.le_refl _) _)) HL.out (by simp) ?_; intro v1 w1 hown1 hg1)
    go_ret
    exact ⟨_, rfl, hown1, (Below.alloc (Below.refl _ w) (Nat.le_refl _) _).trans hg1⟩

set_option maxRecDepth 100000 in
theorem new_any (w : World) : Calls Try.prog 10 #[] w fun e w' => e = .returned (.pointer (some ⟨w.heap.size, 0, none⟩)) ∧ w' = w.alloc (.cells #[.map none] 53) := by
  go_enter Try.func10, Try.ntmps10
  go_wp2
  go_ret
  exact ⟨rfl, rfl⟩
def none' : Tab := fun _ => none
theorem new_disk (w : World) : Disk (w.alloc (.cells #[.map none] 53)) w.heap.size (fun i => i = w.heap.size) 0 none' := by
  refine ⟨fun _ => undef, fun i hi => by subst hi; simp, rfl, .inl ⟨heap_alloc_new w _, fun _ => rfl⟩⟩

set_option maxRecDepth 100000 in
theorem read_any (pb N M : Nat) (fp : Nat → Prop) (F : Tab) (s : ByteArray) (w : World) (hd : Disk w pb fp N F) (hs : s.size ≤ maxLen) (hf : Fits F M) (hM : M ≤ 100000000000000) :
    Calls Try.prog 15 #[.pointer (some ⟨pb, 0, none⟩), .string s] w fun e w' => ∃ v', e = .returned v' ∧ Owns w' w.heap.size v' (bytesOf F (key s)) ∧ Below w.heap.size w w' := by
  obtain ⟨V, hd⟩ := hd
  obtain ⟨mo, lv, hc, hlt, hr1, _, hown, _, _⟩ := hd.look hs trivial
  generalize hbb : bytesOf F (key s) = bb at *
  generalize hsy : syncOf F (key s) = sy at *
  have hbl : bb.length ≤ 100000000000000 := by have := (hf.sync (key s)).2; rw [hbb] at this; omega
  have HL : Hid (bb.length ≤ 100000000000000) := hbl
  clear hbl
  obtain ⟨a, c, rfl, _⟩ := ReadsV.of_own hown
  have HO : Hid (Owns w 0 (.slice a bb.length c) bb) := hown
  generalize bb.length = n at hr1 HO
  have e1 := field0 a n c
  clear hown hd hf hbb hsy hs
  go_enter Try.func15, Try.ntmps15
  go_wp2_with (go_at_call 27; refine (clone_any _ bb _ (ReadsV.of_own HO.out) HL.out).mono ?_; rintro e w' ⟨v', rfl, ho, hB⟩)
  go_ret
  exact ⟨_, rfl, ho, hB⟩

set_option maxRecDepth 100000 in
theorem loose_any (pb N M : Nat) (fp : Nat → Prop) (F : Tab) (s : ByteArray) (w : World) (hd : Disk w pb fp N F) (hs : s.size ≤ maxLen) (hf : Fits F M) (hM : M ≤ 100000000000000) :
    Calls Try.prog 18 #[.pointer (some ⟨pb, 0, none⟩), .string s] w fun e w' => e = .returned (.int .i64 ((bytesOf F (key s)).length - syncOf F (key s) : Nat)) ∧ Below w.heap.size w w' := by
  obtain ⟨V, hd⟩ := hd
  obtain ⟨mo, lv, hc, hlt, hr1, _, hown, _, _⟩ := hd.look hs trivial
  generalize hbb : bytesOf F (key s) = bb at *
  generalize hsy : syncOf F (key s) = sy at *
  have hle : sy ≤ bb.length ∧ bb.length ≤ 100000000000000 := by have := hf.sync (key s); rw [hbb, hsy] at this; omega
  obtain ⟨a, c, rfl, hrest⟩ := ReadsV.of_own hown
  obtain ⟨n, hn⟩ : ∃ n, bb.length = n := ⟨_, rfl⟩
  rw [hn] at hle hr1 ⊢
  obtain ⟨h1, h2⟩ := hle
  clear hown hd hf hbb hsy hs hrest hn
  go_enter Try.func18, Try.ntmps18
  go_wp2
  go_ret
  refine ⟨?_, ?_⟩
  · show Ending.returned (.int .i64 ((n : Int) - (sy : Int))) = _
    rw [Int.ofNat_sub h1]
  · exact Below.alloc (Below.refl _ w) (Nat.le_refl _) _

end Go.Proofs.Ytcmnjiichkcmgaa
