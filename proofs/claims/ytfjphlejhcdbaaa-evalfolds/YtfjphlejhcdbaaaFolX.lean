/-
  What is known of a tree: contracts.
-/
import Derived.Test.YtfjphlejhcdbaaaRenA
import Derived.Test.YtfjphlejhcdbaaaTreA
namespace Go.Proofs.Ytfjphlejhcdbaaa
section
section
open Go.RowKit
set_option linter.unusedVariables false


def plainK (k : Int) : Bool := decide (k = 1 ∨ k = 3 ∨ k = 4)
def recM (k a b : Int) : Option Int :=
  if k = 7 then (if a + b ≤ 9223372036854775807 then some (a + b) else none)
  else if k = 8 then (if b ≤ a then some (a - b) else none)
  else if k = 9 then (if a * b ≤ 9223372036854775807 then some (a * b) else none)
  else if k = 10 then (if b ≠ 0 then some (a / b) else none) else none
def ansT (b : Bool) : Tr := ⟨if b = true then 3 else 4, 0, [], []⟩
def oneM (k : Int) (s : Tr) : Tr := if k = 6 ∧ (s.kind = 3 ∨ s.kind = 4) then ansT (decide (s.kind = 4)) else if k = 5 ∧ s.kind = 1 ∧ s.n = 0 then s else ⟨k, 0, [], [s]⟩
/-- A tree that was made, of blocks from base on. -/
def FPost (base : Nat) (w : World) (t : Tr) (e : Ending) (w' : World) : Prop := ∃ k n s a l c, e = .returned (.agg #[.int .i64 k, .int .i64 n, .string s, .slice a l c]) ∧ Tre w' (fun g => base ≤ g) (.agg #[.int .i64 k, .int .i64 n, .string s, .slice a l c]) t ∧ Below w.heap.size w w'
theorem ans_tre (w : World) (P : Nat → Prop) (b : Bool) : Tre w P (.agg #[.int .i64 (if b = true then 3 else 4), .int .i64 0, .string ⟨#[]⟩, .slice none 0 0]) (ansT b) := by
  cases b
  · exact Tre.leaf w P ⟨by decide, by decide⟩ inR_zero [] (by decide)
  · exact Tre.leaf w P ⟨by decide, by decide⟩ inR_zero [] (by decide)
end
end
section
open Go.RowKit
set_option linter.unusedVariables false


def twoM (k : Int) (a b : Tr) : Tr :=
  if k = 13 ∨ k = 14 then (if a.kind = 3 ∨ a.kind = 4 then (if a.kind = (if k = 14 then 3 else 4) then a else b) else ⟨k, 0, [], [a, b]⟩)
  else if k = 11 ∨ k = 12 then (if plainK a.kind = true ∧ plainK b.kind = true then ansT (if k = 11 then decide (a.kind = b.kind ∧ a.n = b.n) else decide (a.n < b.n)) else ⟨k, 0, [], [a, b]⟩)
  else match (if a.kind = 1 ∧ b.kind = 1 then recM k a.n b.n else none) with
    | some r => ⟨1, r, [], []⟩
    | none => ⟨k, 0, [], [a, b]⟩
theorem node2_out {w W : World} (hb : Below w.heap.size w W) {base g : Nat} (hbase : base ≤ w.heap.size) {v0 v1 v2 v3 u0 u1 u2 u3 : Value} {s t : Tr} (hT : Tre w (fun g => base ≤ g) (.agg #[v0, v1, v2, v3]) s) (hU : Tre w (fun g => base ≤ g) (.agg #[u0, u1, u2, u3]) t) {k : Int} (hk : InR k) (hg : g = W.heap.size) :
    Tre (W.alloc (.cells #[v0, v1, v2, v3, u0, u1, u2, u3] 24)) (fun g => base ≤ g) (.agg #[.int .i64 k, .int .i64 0, .string ⟨#[]⟩, .slice (some ⟨g, 0, none⟩) 2 2]) ⟨k, 0, [], [s, t]⟩ ∧ Below w.heap.size w (W.alloc (.cells #[v0, v1, v2, v3, u0, u1, u2, u3] 24)) := by
  subst hg
  have h1 := hb.alloc hb.size (.cells #[v0, v1, v2, v3, u0, u1, u2, u3] 24)
  have hr := RowC.new W #[v0, v1, v2, v3, u0, u1, u2, u3] 24
  exact ⟨Tre.node2 hk (hT.below h1) (hU.below h1) (show base ≤ W.heap.size by have := hb.size; omega) (hr 0 _ rfl) (hr 1 _ rfl) (hr 2 _ rfl) (hr 3 _ rfl) (hr 4 _ rfl) (hr 5 _ rfl) (hr 6 _ rfl) (hr 7 _ rfl), h1⟩
/-- Where the three boxes and what is known lie. -/
structure Sit (w W : World) (z : Nat) (x0 x1 x2 x3 y0 y1 y2 y3 k0 k1 k2 k3 : Value) : Prop where
  a : Cell4 W w.heap.size x0 x1 x2 x3
  b : Cell4 W (w.heap.size + 1) y0 y1 y2 y3
  r : Cell4 W (w.heap.size + 1 + 1) (.int .i64 0) (.int .i64 0) (.string ⟨#[]⟩) (.slice none 0 0)
  z : Cell4 W z k0 k1 k2 k3
  bel : Below w.heap.size w W
theorem Sit.below {w W W' : World} {z : Nat} {x0 x1 x2 x3 y0 y1 y2 y3 k0 k1 k2 k3 : Value} (h : Sit w W z x0 x1 x2 x3 y0 y1 y2 y3 k0 k1 k2 k3) (hb : Below W.heap.size W W') : Sit w W' z x0 x1 x2 x3 y0 y1 y2 y3 k0 k1 k2 k3 :=
  ⟨h.a.below hb, h.b.below hb, h.r.below hb, h.z.below hb, h.bel.trans (hb.mono h.bel.size)⟩
theorem Cell4.put {w : World} {M : Nat} {v0 v1 v2 v3 u0 u1 u2 u3 : Value} (h : Cell4 w M v0 v1 v2 v3) : Cell4 ((((w.setCell ⟨M, 0, none⟩ u0).setCell ⟨M, 0 + 1, none⟩ u1).setCell ⟨M, 0 + 2, none⟩ u2).setCell ⟨M, 0 + 3, none⟩ u3) M u0 u1 u2 u3 := by
  obtain ⟨h0, h1, h2, h3⟩ := four_put (w := w) (M := M) (o := 0) (u0 := u0) (u1 := u1) (u2 := u2) (u3 := u3) (fun j hj => by
    match j, hj with
    | 0, _ => exact ⟨_, h.c0⟩
    | 1, _ => exact ⟨_, h.c1⟩
    | 2, _ => exact ⟨_, h.c2⟩
    | 3, _ => exact ⟨_, h.c3⟩)
  exact ⟨h0, h1, h2, h3, fun i => by simp only [World.frozen?_setCell]; exact h.free i⟩
end
section
section
open Go.RowKit
set_option linter.unusedVariables false


theorem plain_ne {k : Int} (h : plainK k = true) : k = 1 ∨ k = 3 ∨ k = 4 := by unfold plainK at h; simpa using h
theorem plain_of {k : Int} (h : k = 1 ∨ k = 3 ∨ k = 4) : plainK k = true := by unfold plainK; simpa using h
theorem recM_in {k a b r : Int} (ha : 0 ≤ a) (ha2 : a ≤ 9223372036854775807) (hb : 0 ≤ b) (h : recM k a b = some r) : InR r := by
  unfold recM at h
  unfold InR
  repeat' split at h
  all_goals first | (cases h; done) | skip
  · injection h with h; omega
  · injection h with h; omega
  · injection h with h
    have := Int.mul_nonneg ha hb
    omega
  · injection h with h
    have h1 := Int.ediv_nonneg ha hb
    have h2 := Int.ediv_le_self b ha
    omega
def foM : Nat → Tr → Tr
  | 0, t => t
  | d + 1, t => match t.kids with
    | [] => ⟨t.kind, t.n, t.name, []⟩
    | [x] => oneM t.kind (foM d x)
    | x :: y :: _ => twoM t.kind (foM d x) (foM d y)
theorem recM_pos {k a b r : Int} (ha : 0 ≤ a) (hb : 0 ≤ b) (h : recM k a b = some r) : 0 ≤ r := by
  unfold recM at h
  repeat' split at h
  all_goals first | (cases h; done) | skip
  · injection h with h; omega
  · injection h with h; omega
  · injection h with h
    have := Int.mul_nonneg ha hb
    omega
  · injection h with h
    have h1 := Int.ediv_nonneg ha hb
    omega
def Nn (t : Tr) : Prop := t.kind = 1 → 0 ≤ t.n
theorem ans_nn (b : Bool) : Nn (ansT b) := by intro h; cases b <;> simp [ansT] at h
theorem one_nn {k : Int} {s : Tr} (hk : k ≠ 1) (h : Nn s) : Nn (oneM k s) := by
  unfold oneM
  split
  · exact ans_nn _
  · split
    · exact h
    · exact fun e => absurd e hk
theorem two_nn {k : Int} {a b : Tr} (hk : k ≠ 1) (ha : Nn a) (hb : Nn b) : Nn (twoM k a b) := by
  unfold twoM
  split
  · split
    · by_cases c : a.kind = if k = 14 then 3 else 4
      · rw [if_pos c]; exact ha
      · rw [if_neg c]; exact hb
    · exact fun e => absurd e hk
  · split
    · split
      · exact ans_nn _
      · exact fun e => absurd e hk
    · by_cases h : a.kind = 1 ∧ b.kind = 1
      · rw [if_pos h]
        cases hr : recM k a.n b.n with
        | some r => exact fun _ => recM_pos (ha h.1) (hb h.2) hr
        | none => exact fun e => absurd e hk
      · rw [if_neg h]; exact fun e => absurd e hk
theorem fo_nn : ∀ (d : Nat) (t : Tr), checkM d t = 0 → Nn (foM d t)
  | 0, t, h => by cases h
  | d + 1, t, h => by
    have hs := shape h
    unfold foM
    rcases hs.kids with ⟨h4, hk⟩ | ⟨h5, x, hk, hx⟩ | ⟨h7, x, y, hk, hx, hy⟩
    · rw [hk]; exact fun _ => hs.num
    · rw [hk]; exact one_nn (by omega) (fo_nn d x hx)
    · rw [hk]; exact two_nn (by omega) (fo_nn d x hx) (fo_nn d y hy)
def foldM (t : Tr) : Tr × Nat := if (truthM t).2 ≠ 0 then (zeroT, (truthM t).2) else (foM 16 t, 0)
theorem truth_check {t : Tr} (h : (truthM t).2 = 0) : checkM 16 t = 0 := by
  unfold truthM at h
  split at h
  · exact h
  · omega
end
end
end Go.Proofs.Ytfjphlejhcdbaaa
