/-
  Members and messages in memory; a member at work.
-/
import Derived.Test.YtfmfphfckaiejaaJaf
import Derived.Test.YtfmfphfckaiejaaJag
namespace Go.Proofs.Ytfmfphfckaiejaa
section
open Go.RowKit
set_option linter.unusedVariables false


/-- Where the lists of a member lie. -/
structure Ad where
  ea : Option Addr
  ec : Nat
  sa : Option Addr
  sc : Nat
  ga : Option Addr
  gc : Nat
  xa : Option Addr
  xc : Nat
  ma : Option Addr
  mc : Nat
/-- Where those of a message lie. -/
structure Ax where
  ea : Option Addr
  ec : Nat
  da : Option Addr
  dc : Nat
def zAd : Ad := ⟨none, 0, none, 0, none, 0, none, 0, none, 0⟩
def zAx : Ax := ⟨none, 0, none, 0⟩
/-- The block of a list that has something lies in P. -/
def PV (P : Nat → Prop) (a : Option Addr) (n : Nat) : Prop := n ≠ 0 → ∀ x, a = some x → P x.block
theorem PV.none (P : Nat → Prop) (a : Option Addr) : PV P a 0 := fun h => absurd rfl h
theorem RdL.kept {w w' : World} {P Q : Nat → Prop} {a : Option Addr} {c : Nat} {vs : List Value} (h : RdL w a c vs) (hp : PV P a vs.length) (hk : ∀ g, P g → g < w.heap.size → w'.heap[g]? = w.heap[g]? ∧ Q g) : RdL w' a c vs ∧ PV Q a vs.length := by
  rcases h.cells with h0 | ⟨b, o, rfl, hc⟩
  · exact ⟨⟨h.cap1, h.cap2, h.nil, .inl h0⟩, by rw [h0]; exact PV.none _ _⟩
  · by_cases h0 : vs.length = 0
    · exact ⟨⟨h.cap1, h.cap2, h.nil, .inl h0⟩, by rw [h0]; exact PV.none _ _⟩
    · have h1 := hc 0 (by omega)
      rw [List.getElem?_eq_getElem (by omega)] at h1
      have hq := hk b (hp h0 _ rfl) (World.block_lt_of_cell? w _ h1)
      exact ⟨⟨h.cap1, h.cap2, h.nil, .inr ⟨b, o, rfl, fun i hi => (cell_kept hq.1 _).trans (hc i hi)⟩⟩, fun _ x hx => by cases hx; exact hq.2⟩
theorem BlV.kept {w w' : World} {P Q : Nat → Prop} {a : Option Addr} {c : Nat} {l : List Bool} (h : BlV w a c l) (hp : PV P a l.length) (hk : ∀ g, P g → g < w.heap.size → w'.heap[g]? = w.heap[g]? ∧ Q g) : BlV w' a c l ∧ PV Q a l.length := by
  have := RdL.kept h (by rw [List.length_map]; exact hp) hk
  rw [List.length_map] at this
  exact this
theorem IlV.kept {w w' : World} {P Q : Nat → Prop} {a : Option Addr} {c : Nat} {l : List Int} (h : IlV w a c l) (hp : PV P a l.length) (hk : ∀ g, P g → g < w.heap.size → w'.heap[g]? = w.heap[g]? ∧ Q g) : IlV w' a c l ∧ PV Q a l.length := by
  have := RdL.kept h.rd (by rw [List.length_map]; exact hp) hk
  rw [List.length_map] at this
  exact ⟨⟨this.1, h.inr⟩, this.2⟩
theorem bytes_kept {w w' : World} {P Q : Nat → Prop} {a : Option Addr} {c : Nat} {l : BB} (h : ReadsV w (.slice a l.length c) l) (hp : PV P a l.length) (hk : ∀ g, P g → g < w.heap.size → w'.heap[g]? = w.heap[g]? ∧ Q g) : ReadsV w' (.slice a l.length c) l ∧ PV Q a l.length := by
  have lt : ∀ x, l.length ≠ 0 → a = some x → x.block < w.heap.size := fun x h0 hx => by
    obtain ⟨b, off, e1, hb, _⟩ := cells_of h (by omega)
    rw [e1] at hx; cases hx; exact hb
  refine ⟨readsV_kept h fun h0 x hx => ?_, fun h0 x hx => (hk _ (hp h0 x hx) (lt x h0 hx)).2⟩
  have h1 : l.length ≠ 0 := fun e => h0 (List.length_eq_zero_iff.1 e)
  exact (hk _ (hp h1 x hx) (lt x h1 hx)).1
structure MbV (w : World) (P : Nat → Prop) (s : Ad) (m : Mb) : Prop where
  e : EnsV w P s.ea s.ec m.es
  sn : ReadsV w (.slice s.sa m.snap.length s.sc) m.snap
  sP : PV P s.sa m.snap.length
  g : BlV w s.ga s.gc m.granted
  gP : PV P s.ga m.granted.length
  x : IlV w s.xa s.xc m.next
  xP : PV P s.xa m.next.length
  t : IlV w s.ma s.mc m.mtch
  tP : PV P s.ma m.mtch.length
theorem MbV.kept {w w' : World} {P Q : Nat → Prop} {s : Ad} {m : Mb} (h : MbV w P s m) (hk : ∀ g, P g → g < w.heap.size → w'.heap[g]? = w.heap[g]? ∧ Q g) : MbV w' Q s m := by
  have h1 := bytes_kept h.sn h.sP hk
  have h2 := h.g.kept h.gP hk
  have h3 := h.x.kept h.xP hk
  have h4 := h.t.kept h.tP hk
  exact ⟨h.e.kept hk, h1.1, h1.2, h2.1, h2.2, h3.1, h3.2, h4.1, h4.2⟩
theorem MbV.below {w w' : World} {P : Nat → Prop} {s : Ad} {m : Mb} (h : MbV w P s m) (hb : Below w.heap.size w w') : MbV w' P s m := h.kept fun g hg hlt => ⟨hb.block g hlt, hg⟩
theorem MbV.sub {w : World} {P Q : Nat → Prop} {s : Ad} {m : Mb} (h : MbV w P s m) (hq : ∀ g, P g → g < w.heap.size → Q g) : MbV w Q s m := h.kept fun g hg hlt => ⟨rfl, hq g hg hlt⟩
structure MsV (w : World) (P : Nat → Prop) (s : Ax) (x : Ms) : Prop where
  e : EnsV w P s.ea s.ec x.ents
  d : ReadsV w (.slice s.da x.data.length s.dc) x.data
  dP : PV P s.da x.data.length
theorem MsV.kept {w w' : World} {P Q : Nat → Prop} {s : Ax} {x : Ms} (h : MsV w P s x) (hk : ∀ g, P g → g < w.heap.size → w'.heap[g]? = w.heap[g]? ∧ Q g) : MsV w' Q s x := by
  have h1 := bytes_kept h.d h.dP hk
  exact ⟨h.e.kept hk, h1.1, h1.2⟩
theorem MsV.below {w w' : World} {P : Nat → Prop} {s : Ax} {x : Ms} (h : MsV w P s x) (hb : Below w.heap.size w w') : MsV w' P s x := h.kept fun g hg hlt => ⟨hb.block g hlt, hg⟩
theorem MsV.sub {w : World} {P Q : Nat → Prop} {s : Ax} {x : Ms} (h : MsV w P s x) (hq : ∀ g, P g → g < w.heap.size → Q g) : MsV w Q s x := h.kept fun g hg hlt => ⟨rfl, hq g hg hlt⟩
def mbCells (s : Ad) (m : Mb) : List Value := [.int .i64 m.id, .int .i64 m.n, .int .i64 m.term, .int .i64 m.vote, .int .i64 m.role, .int .i64 m.lead, .int .i64 m.b, .int .i64 m.bt, .slice s.ea m.es.length s.ec, .int .i64 m.commit, .slice s.sa m.snap.length s.sc, .slice s.ga m.granted.length s.gc, .slice s.xa m.next.length s.xc, .slice s.ma m.mtch.length s.mc, .int .i64 m.clock, .int .i64 m.wait]
def msCells (s : Ax) (x : Ms) : List Value := [.int .i64 x.kind, .int .i64 x.grp, .int .i64 x.frm, .int .i64 x.to, .int .i64 x.term, .int .i64 x.at_, .int .i64 x.att, .int .i64 x.commit, .bool x.ok, .slice s.ea x.ents.length s.ec, .slice s.da x.data.length s.dc]
def mbA (s : Ad) (m : Mb) : Value := .agg #[.int .i64 m.id, .int .i64 m.n, .int .i64 m.term, .int .i64 m.vote, .int .i64 m.role, .int .i64 m.lead, .int .i64 m.b, .int .i64 m.bt, .slice s.ea m.es.length s.ec, .int .i64 m.commit, .slice s.sa m.snap.length s.sc, .slice s.ga m.granted.length s.gc, .slice s.xa m.next.length s.xc, .slice s.ma m.mtch.length s.mc, .int .i64 m.clock, .int .i64 m.wait]
def msA (s : Ax) (x : Ms) : Value := .agg #[.int .i64 x.kind, .int .i64 x.grp, .int .i64 x.frm, .int .i64 x.to, .int .i64 x.term, .int .i64 x.at_, .int .i64 x.att, .int .i64 x.commit, .bool x.ok, .slice s.ea x.ents.length s.ec, .slice s.da x.data.length s.dc]
theorem mbOne (s : Ad) (m : Mb) : ∀ u, u ∈ mbCells s m → u.oneCell' = true := by
  intro u hu
  simp only [mbCells, List.mem_cons, List.not_mem_nil, or_false] at hu
  rcases hu with rfl | rfl | rfl | rfl | rfl | rfl | rfl | rfl | rfl | rfl | rfl | rfl | rfl | rfl | rfl | rfl <;> rfl
theorem msOne (s : Ax) (x : Ms) : ∀ u, u ∈ msCells s x → u.oneCell' = true := by
  intro u hu
  simp only [msCells, List.mem_cons, List.not_mem_nil, or_false] at hu
  rcases hu with rfl | rfl | rfl | rfl | rfl | rfl | rfl | rfl | rfl | rfl | rfl <;> rfl
def mbR : Rdr Mb where
  k := 16
  z := zMb
  R w P us m := ∃ s, us = mbCells s m ∧ MbV w P s m
  kpos := by decide
  kept := fun ⟨s, h1, h2⟩ hk => ⟨s, h1, h2.kept hk⟩
  len := fun ⟨s, h1, _⟩ => by rw [h1]; rfl
  one := fun ⟨s, h1, _⟩ => by rw [h1]; exact mbOne _ _
def msR : Rdr Ms where
  k := 11
  z := zMs
  R w P us m := ∃ s, us = msCells s m ∧ MsV w P s m
  kpos := by decide
  kept := fun ⟨s, h1, h2⟩ hk => ⟨s, h1, h2.kept hk⟩
  len := fun ⟨s, h1, _⟩ => by rw [h1]; rfl
  one := fun ⟨s, h1, _⟩ => by rw [h1]; exact msOne _ _
theorem infoMs : (Try.prog.info? 79).map (fun i => (i.zero, i.size, i.bytes)) = some (some (msA zAx zMs), 11, 120) := by kernel_rfl
theorem tyMs : TyOk msR 41 79 120 := ⟨Try.underlying41, by
  obtain ⟨i, h1, h2, h3, h4⟩ := info_parts infoMs
  exact ⟨i, _, h1, h2, h3, h4, rfl⟩⟩
/-- A member's cells, in a block, and one more. -/
abbrev Wc (w : World) (M : Nat) (s : Ad) (m : Mb) (v : Value) : Prop := Cl17 w M (.int .i64 m.id) (.int .i64 m.n) (.int .i64 m.term) (.int .i64 m.vote) (.int .i64 m.role) (.int .i64 m.lead) (.int .i64 m.b) (.int .i64 m.bt) (.slice s.ea m.es.length s.ec) (.int .i64 m.commit) (.slice s.sa m.snap.length s.sc) (.slice s.ga m.granted.length s.gc) (.slice s.xa m.next.length s.xc) (.slice s.ma m.mtch.length s.mc) (.int .i64 m.clock) (.int .i64 m.wait) v
abbrev Xc (w : World) (M : Nat) (s : Ax) (x : Ms) : Prop := Cl11 w M (.int .i64 x.kind) (.int .i64 x.grp) (.int .i64 x.frm) (.int .i64 x.to) (.int .i64 x.term) (.int .i64 x.at_) (.int .i64 x.att) (.int .i64 x.commit) (.bool x.ok) (.slice s.ea x.ents.length s.ec) (.slice s.da x.data.length s.dc)
abbrev Rc (w : World) (M : Nat) (s : Ad) (m : Mb) : Prop := Cl16 w M (.int .i64 m.id) (.int .i64 m.n) (.int .i64 m.term) (.int .i64 m.vote) (.int .i64 m.role) (.int .i64 m.lead) (.int .i64 m.b) (.int .i64 m.bt) (.slice s.ea m.es.length s.ec) (.int .i64 m.commit) (.slice s.sa m.snap.length s.sc) (.slice s.ga m.granted.length s.gc) (.slice s.xa m.next.length s.xc) (.slice s.ma m.mtch.length s.mc) (.int .i64 m.clock) (.int .i64 m.wait)
def Ns (B M g : Nat) : Prop := g ≠ M ∧ g + 1 ≠ B
def Pv (M : Nat) (v : Value) (g : Nat) : Prop := g ≠ M ∧ v.ownBlock ≠ some g
def Pw (B M : Nat) (v : Value) (g : Nat) : Prop := Pv M v g ∧ g + 1 ≠ B
/-- A member at work, in block M; what it sends is v. -/
structure Wk (w : World) (B M : Nat) (s : Ad) (m : Mb) (v : Value) (ts : List Ms) : Prop where
  c : Wc w M s m v
  r : MbV w (Pw B M v) s m
  o : Gr msR 79 w B (Ns B M) v ts
  bm : B ≤ M
  om : v.ownBlock ≠ some M
/-- What a call of a member at work leaves. -/
structure Dn (B M : Nat) (v v' : Value) (w w' : World) : Prop where
  b : Below B w w'
  k : ∀ g, g < w.heap.size → Pv M v g → w'.heap[g]? = w.heap[g]?
  o : ∀ g, g < w.heap.size → v'.ownBlock = some g → v.ownBlock = some g
theorem Dn.refl (B M : Nat) (v : Value) (w : World) : Dn B M v v w w := ⟨Below.refl _ _, fun _ _ _ => rfl, fun _ _ h => h⟩
theorem Dn.trans {B M : Nat} {v v' v'' : Value} {w w' w'' : World} (h : Dn B M v v' w w') (h2 : Dn B M v' v'' w' w'') : Dn B M v v'' w w'' :=
  ⟨h.b.trans h2.b, fun g hg hp => (h2.k g (Nat.lt_of_lt_of_le hg h.b.size) ⟨hp.1, fun e => hp.2 (h.o g hg e)⟩).trans (h.k g hg hp), fun g hg e => h.o g hg (h2.o g (Nat.lt_of_lt_of_le hg h.b.size) e)⟩
theorem Dn.below {B M : Nat} {v : Value} {w w' : World} (h : Below w.heap.size w w') (hB : B ≤ w.heap.size) : Dn B M v v w w' := ⟨h.mono hB, fun g hg _ => h.block g hg, fun _ _ e => e⟩
section
variable {w w' : World} {B M : Nat} {s s' : Ad} {m m' : Mb} {v v' : Value} {ts ts' : List Ms}
theorem Wk.lt (h : Wk w B M s m v ts) : M < w.heap.size := h.c.lt
theorem Wk.le (h : Wk w B M s m v ts) : B ≤ w.heap.size := Nat.le_trans h.bm (Nat.le_of_lt h.lt)
theorem Wk.below (h : Wk w B M s m v ts) (hb : Below w.heap.size w w') : Wk w' B M s m v ts := ⟨h.c.below hb, h.r.below hb, h.o.below hb, h.bm, h.om⟩
theorem Wk.alloc (h : Wk w B M s m v ts) (o : Obj) : Wk (w.alloc o) B M s m v ts := h.below ((Below.refl _ _).alloc (Nat.le_refl _) o)
/-- Only its own cells were turned. -/
theorem Wk.turn (h : Wk w B M s m v ts) (hc : Wc w' M s' m' v) (hk : ∀ g, g ≠ M → w'.heap[g]? = w.heap[g]?) (hr : MbV w (Pw B M v) s' m') : Wk w' B M s' m' v ts :=
  ⟨hc, hr.kept fun g hg _ => ⟨hk g hg.1.1, hg⟩, h.o.kept (fun g hg => hk g fun e => h.om (by rw [hg, e])) fun g hg _ _ => ⟨hk g hg.1, hg⟩, h.bm, h.om⟩
theorem Dn.turn (hk : ∀ g, g ≠ M → w'.heap[g]? = w.heap[g]?) (hb : Below B w w') : Dn B M v v w w' := ⟨hb, fun g _ hp => hk g hp.1, fun _ _ e => e⟩
theorem MbV.off {P Q : Nat → Prop} (h : MbV w P s m) (hb : Below w.heap.size w w') (hP : ∀ g, P g → g < w.heap.size → Q g) : MbV w' Q s m := h.kept fun g hg hlt => ⟨hb.block g hlt, hP g hg hlt⟩
/-- A message's box, kept by a call of a member at work. -/
theorem Dn.box (h : Dn B M v v' w w') {q : Nat} (h1 : q < w.heap.size) (h2 : q ≠ M) (h3 : v.ownBlock ≠ some q) : w'.heap[q]? = w.heap[q]? := h.k q h1 ⟨h2, h3⟩
end
end
section
open Go.RowKit
set_option linter.unusedVariables false


theorem list_bytes {ops : Array Oper} {rest : List Oper} {o : Oper} {a : Act} {Q : Exit → Act → World → Prop} {wX : World} (hgd : o.guard = none) (s x : Operand)
    (ho : o.op = .call { callee := .builtin .append, args := #[s, x], argTypes := #[25, 25] }) {v2 : Value} {l : BB} (hr : ReadsV wX v2 l) (hlen : l.length ≤ 1048576) (hs : a.eval s = .slice none 0 0) (hx : a.eval x = v2)
    (h : ∀ v' w', Owns w' wX.heap.size v' l → Below wX.heap.size wX w' → wpList Try.prog ops Q rest (a.put o.dst v') w') : wpList Try.prog ops Q (o :: rest) a wX := by
  obtain ⟨v', w', hr, q1, q2⟩ := run_bytes o.type hr hlen
  refine wpList_plain hgd fun K hK => ?_
  unfold Oper.wp execOp
  simp only [ho, resolve, invoke, builtin, Sem.run_bind, Sem.run_pure, Result.andThen_ok, List.map_toArray, List.map_cons, List.map_nil, hs, hx, hr]
  exact hK _ _ (h v' w' q1 q2)
/-- What copied leaves. -/
def CpP (l : BB) (w : World) (e : Ending) (w' : World) : Prop := ∃ a c, e = .returned (.slice a l.length c) ∧ ReadsV w' (.slice a l.length c) l ∧ PV (fun g => w.heap.size ≤ g) a l.length ∧ Below w.heap.size w w'
set_option maxRecDepth 100000 in
set_option maxHeartbeats 400000 in
theorem copied_any (l : BB) (a : Option Addr) (c : Nat) (w : World) (h : ReadsV w (.slice a l.length c) l) (hl : l.length ≤ 100000) : Calls Try.prog 31 #[.slice a l.length c] w (CpP l w) := by
  have HR : Hid (ReadsV w (.slice a l.length c) l) := h
  have HG : Hid (∀ v' w', Owns w' w.heap.size v' l → Below w.heap.size w w' → ∃ a' c', v' = .slice a' l.length c' ∧ CpP l w (.returned (.slice a' l.length c')) w') := fun v' w' q1 q2 => by
    obtain ⟨a', c', rfl, q3⟩ := own_shape q1
    exact ⟨a', c', rfl, a', c', rfl, ReadsV.of_own q1, fun _ x hx => q3 x hx, q2⟩
  have HLn : Hid (l.length ≤ 1048576) := by show _ ≤ _; omega
  clear h
  generalize CpP l w = Post at *
  generalize hn : l.length = n at HR HG ⊢
  go_enter Try.func31, Try.ntmps31
  go_wp2_with (at_builtin; (refine list_bytes rfl _ _ rfl HR.out HLn.out rfl rfl ?_; intro v' w' q1 q2; obtain ⟨a', c', e1, q3⟩ := HG.out v' w' q1 q2; subst e1; have HF : Hid (Post (.returned (.slice a' n c')) w') := q3; clear q1 q2 q3))
  exact HF.out
end
section
open Go.RowKit
set_option linter.unusedVariables false


theorem among_yes (id n : Int) (w : World) (h1 : n ≤ 7) (h2 : 1 ≤ id) (h3 : id ≤ n) : Calls Try.prog 26 #[.int .i64 id, .int .i64 n] w fun e w' => e = .returned (.bool true) ∧ w' = w := by
  go_enter Try.func26, Try.ntmps26
  go_wp2
  go_ret
  exact ⟨rfl, rfl⟩
theorem among_no (id n : Int) (w : World) (h : ¬ amongM id n) : Calls Try.prog 26 #[.int .i64 id, .int .i64 n] w fun e w' => e = .returned (.bool false) ∧ w' = w := by
  by_cases h1 : n ≤ 7
  · by_cases h2 : 1 ≤ id
    · have h3 : ¬ id ≤ n := fun q => h ⟨h2, q, h1⟩
      clear h
      have d3 : decide (id ≤ n) = false := decide_eq_false h3
      go_enter Try.func26, Try.ntmps26
      go_wp2
      go_ret
      exact ⟨rfl, rfl⟩
    · clear h
      have d3 : decide (1 ≤ id) = false := decide_eq_false h2
      go_enter Try.func26, Try.ntmps26
      go_wp2
      go_ret
      exact ⟨rfl, rfl⟩
  · clear h
    have d3 : decide (n ≤ 7) = false := decide_eq_false h1
    go_enter Try.func26, Try.ntmps26
    go_wp2
    go_ret
    exact ⟨rfl, rfl⟩
end
end Go.Proofs.Ytfmfphfckaiejaa
