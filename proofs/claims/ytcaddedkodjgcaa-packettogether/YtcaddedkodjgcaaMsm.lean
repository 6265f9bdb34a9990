/-
  Messages, and messages in memory.
-/
import Derived.Test.YtcaddedkodjgcaaRow
namespace Go.Proofs.Ytcaddedkodjgcaa
open Go.RowKit
set_option linter.unusedVariables false


/-- A message. -/
structure Ms where
  kind : Int
  grp : Int
  frm : Int
  to : Int
  term : Int
  at_ : Int
  att : Int
  commit : Int
  ok : Bool
  ents : List En
  data : BB
def zMs : Ms := ⟨0, 0, 0, 0, 0, 0, 0, 0, false, [], []⟩
/-- Where those of a message lie. -/
structure Ax where
  ea : Option Addr
  ec : Nat
  da : Option Addr
  dc : Nat
def zAx : Ax := ⟨none, 0, none, 0⟩
/-- The block of a list that has something lies in P. -/
def PV (P : Nat → Prop) (a : Option Addr) (n : Nat) : Prop := n ≠ 0 → ∀ x, a = some x → P x.block
theorem PV.none (P : Nat → Prop) (a : Option Addr) : PV P a 0 := fun h => absurd rfl h
theorem bytes_kept {w w' : World} {P Q : Nat → Prop} {a : Option Addr} {c : Nat} {l : BB} (h : ReadsV w (.slice a l.length c) l) (hp : PV P a l.length) (hk : ∀ g, P g → g < w.heap.size → w'.heap[g]? = w.heap[g]? ∧ Q g) : ReadsV w' (.slice a l.length c) l ∧ PV Q a l.length := by
  have lt : ∀ x, l.length ≠ 0 → a = some x → x.block < w.heap.size := fun x h0 hx => by
    obtain ⟨b, off, e1, hb, _⟩ := cells_of h (by omega)
    rw [e1] at hx; cases hx; exact hb
  refine ⟨readsV_kept h fun h0 x hx => ?_, fun h0 x hx => (hk _ (hp h0 x hx) (lt x h0 hx)).2⟩
  have h1 : l.length ≠ 0 := fun e => h0 (List.length_eq_zero_iff.1 e)
  exact (hk _ (hp h1 x hx) (lt x h1 hx)).1
structure MsV (w : World) (P : Nat → Prop) (s : Ax) (x : Ms) : Prop where
  e : EnsV w P s.ea s.ec x.ents
  d : ReadsV w (.slice s.da x.data.length s.dc) x.data
  dP : PV P s.da x.data.length
theorem MsV.kept {w w' : World} {P Q : Nat → Prop} {s : Ax} {x : Ms} (h : MsV w P s x) (hk : ∀ g, P g → g < w.heap.size → w'.heap[g]? = w.heap[g]? ∧ Q g) : MsV w' Q s x := by
  have h1 := bytes_kept h.d h.dP hk
  exact ⟨h.e.kept hk, h1.1, h1.2⟩
theorem MsV.below {w w' : World} {P : Nat → Prop} {s : Ax} {x : Ms} (h : MsV w P s x) (hb : Below w.heap.size w w') : MsV w' P s x := h.kept fun g hg hlt => ⟨hb.block g hlt, hg⟩
theorem MsV.sub {w : World} {P Q : Nat → Prop} {s : Ax} {x : Ms} (h : MsV w P s x) (hq : ∀ g, P g → g < w.heap.size → Q g) : MsV w Q s x := h.kept fun g hg hlt => ⟨rfl, hq g hg hlt⟩
def msCells (s : Ax) (x : Ms) : List Value := [.int .i64 x.kind, .int .i64 x.grp, .int .i64 x.frm, .int .i64 x.to, .int .i64 x.term, .int .i64 x.at_, .int .i64 x.att, .int .i64 x.commit, .bool x.ok, .slice s.ea x.ents.length s.ec, .slice s.da x.data.length s.dc]
def msA (s : Ax) (x : Ms) : Value := .agg #[.int .i64 x.kind, .int .i64 x.grp, .int .i64 x.frm, .int .i64 x.to, .int .i64 x.term, .int .i64 x.at_, .int .i64 x.att, .int .i64 x.commit, .bool x.ok, .slice s.ea x.ents.length s.ec, .slice s.da x.data.length s.dc]
theorem msOne (s : Ax) (x : Ms) : ∀ u, u ∈ msCells s x → u.oneCell' = true := by
  intro u hu
  simp only [msCells, List.mem_cons, List.not_mem_nil, or_false] at hu
  rcases hu with rfl | rfl | rfl | rfl | rfl | rfl | rfl | rfl | rfl | rfl | rfl <;> rfl
def msR : Rdr Ms where
  k := 11
  z := zMs
  R w P us m := ∃ s, us = msCells s m ∧ MsV w P s m
  kpos := by decide
  kept := fun ⟨s, h1, h2⟩ hk => ⟨s, h1, h2.kept hk⟩
  len := fun ⟨s, h1, _⟩ => by rw [h1]; rfl
  one := fun ⟨s, h1, _⟩ => by rw [h1]; exact msOne _ _
theorem infoMs : (Try.prog.info? 51).map (fun i => (i.zero, i.size, i.bytes)) = some (some (msA zAx zMs), 11, 120) := by kernel_rfl
theorem tyMs : TyOk msR 22 51 120 := ⟨Try.underlying22, by
  obtain ⟨i, h1, h2, h3, h4⟩ := info_parts infoMs
  exact ⟨i, _, h1, h2, h3, h4, rfl⟩⟩
abbrev Xc (w : World) (M : Nat) (s : Ax) (x : Ms) : Prop := Cl11 w M (.int .i64 x.kind) (.int .i64 x.grp) (.int .i64 x.frm) (.int .i64 x.to) (.int .i64 x.term) (.int .i64 x.at_) (.int .i64 x.att) (.int .i64 x.commit) (.bool x.ok) (.slice s.ea x.ents.length s.ec) (.slice s.da x.data.length s.dc)
end Go.Proofs.Ytcaddedkodjgcaa
