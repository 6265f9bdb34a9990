/-
  Trees in memory, and the reader of words: what lies where.
-/
import Derived.Test.YtjafjheffbbkmaaBase
import Derived.Test.YtjafjheffbbkmaaPars
namespace Go.Proofs.Ytjafjheffbbkmaa
open Go.RowKit
set_option linter.unusedVariables false



/-- Of the blocks that there were none but rb has turned. -/
structure Fr (rb : Nat) (w w' : World) : Prop where
  os : w'.os = w.os
  tape : w'.tape = w.tape
  output : w'.output = w.output
  size : w.heap.size ≤ w'.heap.size
  block : ∀ k, k < w.heap.size → k ≠ rb → w'.heap[k]? = w.heap[k]?
theorem Fr.refl (rb : Nat) (w : World) : Fr rb w w := ⟨rfl, rfl, rfl, Nat.le_refl _, fun _ _ _ => rfl⟩
theorem Fr.trans {rb : Nat} {a b c : World} (h : Fr rb a b) (k : Fr rb b c) : Fr rb a c :=
  ⟨k.os.trans h.os, k.tape.trans h.tape, k.output.trans h.output, Nat.le_trans h.size k.size, fun i hi hr => (k.block i (Nat.lt_of_lt_of_le hi h.size) hr).trans (h.block i hi hr)⟩
theorem Fr.of_below {rb : Nat} {a b : World} (h : Below a.heap.size a b) : Fr rb a b := ⟨h.os, h.tape, h.output, h.size, fun i hi _ => h.block i hi⟩
theorem Fr.below {rb B : Nat} {a b : World} (h : Fr rb a b) (h1 : B ≤ rb) (h2 : B ≤ a.heap.size) : Below B a b := ⟨h.os, h.tape, h.output, h.size, fun i hi => h.block i (by omega) (by omega)⟩
theorem Fr.alloc {rb : Nat} {a b : World} (h : Fr rb a b) (o : Obj) : Fr rb a (b.alloc o) :=
  h.trans (.of_below ((Below.refl _ _).alloc (Nat.le_refl _) o))
theorem Fr.setCell {rb : Nat} {a b : World} (h : Fr rb a b) {p : Addr} (hp : p.block = rb ∨ a.heap.size ≤ p.block) (v : Value) : Fr rb a (b.setCell p v) := by
  have e := (Below.refl 0 b).setCell (p := p) (Nat.zero_le _) v
  refine ⟨e.os.trans h.os, e.tape.trans h.tape, e.output.trans h.output, Nat.le_trans h.size e.size, fun i hi hr => ?_⟩
  rw [Below.heap_setCell _ _ _ _ (by rcases hp with hp | hp; rw [hp]; exact hr; omega)]
  exact h.block i hi hr
theorem Fr.cell {rb : Nat} {a b : World} (h : Fr rb a b) {g o : Nat} {v : Value} (hg : g ≠ rb) (hc : a.cell? ⟨g, o, none⟩ = some v) : b.cell? ⟨g, o, none⟩ = some v := by
  have hlt : g < a.heap.size := World.block_lt_of_cell? a _ hc
  rw [← hc]
  simp only [World.cell?]
  rw [h.block g hlt hg]
theorem Fr.frozen {rb : Nat} {a b : World} (h : Fr rb a b) {g o : Nat} (hg : g ≠ rb) (hl : g < a.heap.size) : b.frozen? ⟨g, o, none⟩ = a.frozen? ⟨g, o, none⟩ := by
  simp only [World.frozen?]
  rw [h.block g hl hg]
def InR (x : Int) : Prop := -9223372036854775808 ≤ x ∧ x ≤ 9223372036854775807
theorem inR_zero : InR 0 := ⟨by decide, by decide⟩
/-- A value that reads as a tree (of so many rows), all of it in blocks of P. -/
def TrV (w : World) (P : Nat → Prop) : Nat → Value → Tr → Prop
  | 0, _, _ => False
  | d + 1, v, t => ∃ a cap, v = .agg #[.int .i64 t.kind, .int .i64 t.n, .string (ba t.name), .slice a t.kids.length cap] ∧ t.kids.length ≤ cap ∧ InR t.kind ∧ InR t.n ∧ t.name.length ≤ 9223372036854775807 ∧ t.kids.length ≤ 9223372036854775807 ∧
      ∀ i, i < t.kids.length → ∃ b o u0 u1 u2 u3, a = some ⟨b, o, none⟩ ∧ P b ∧ w.cell? ⟨b, o + i * 4, none⟩ = some u0 ∧ w.cell? ⟨b, o + i * 4 + 1, none⟩ = some u1 ∧ w.cell? ⟨b, o + i * 4 + 2, none⟩ = some u2 ∧ w.cell? ⟨b, o + i * 4 + 3, none⟩ = some u3 ∧ TrV w P d (.agg #[u0, u1, u2, u3]) (t.kids.getD i zeroT)
theorem TrV.mono {w : World} {P : Nat → Prop} : ∀ {d : Nat} {v : Value} {t : Tr}, TrV w P d v t → ∀ {e : Nat}, d ≤ e → TrV w P e v t
  | 0, _, _, h, _, _ => h.elim
  | d + 1, v, t, ⟨a, cap, h1, h2, h3, h4, h5, h6, h7⟩, e, he => by
    obtain ⟨e, rfl⟩ : ∃ k, e = k + 1 := ⟨e - 1, by omega⟩
    refine ⟨a, cap, h1, h2, h3, h4, h5, h6, fun i hi => ?_⟩
    obtain ⟨b, o, u0, u1, u2, u3, k1, k2, k3, k4, k5, k6, k7⟩ := h7 i hi
    exact ⟨b, o, u0, u1, u2, u3, k1, k2, k3, k4, k5, k6, k7.mono (by omega)⟩
/-- What reads as a tree reads so where its blocks are as they were. -/
theorem TrV.kept {w w' : World} {P Q : Nat → Prop} (hf : ∀ g, P g → g < w.heap.size → w'.heap[g]? = w.heap[g]? ∧ Q g) : ∀ {d : Nat} {v : Value} {t : Tr}, TrV w P d v t → TrV w' Q d v t
  | 0, _, _, h => h.elim
  | d + 1, v, t, ⟨a, cap, h1, h2, h3, h4, h5, h6, h7⟩ => by
    refine ⟨a, cap, h1, h2, h3, h4, h5, h6, fun i hi => ?_⟩
    obtain ⟨b, o, u0, u1, u2, u3, k1, k2, k3, k4, k5, k6, k7⟩ := h7 i hi
    have hlt : b < w.heap.size := World.block_lt_of_cell? w _ k3
    obtain ⟨e, q⟩ := hf b k2 hlt
    have hc : ∀ o, w'.cell? ⟨b, o, none⟩ = w.cell? ⟨b, o, none⟩ := fun o => by simp only [World.cell?]; rw [e]
    exact ⟨b, o, u0, u1, u2, u3, k1, q, (hc _).trans k3, (hc _).trans k4, (hc _).trans k5, (hc _).trans k6, k7.kept hf⟩
/-- A value reads as a tree. -/
def Tre (w : World) (P : Nat → Prop) (v : Value) (t : Tr) : Prop := ∃ d, TrV w P d v t
theorem Tre.kept {w w' : World} {P Q : Nat → Prop} {v : Value} {t : Tr} (h : Tre w P v t) (hf : ∀ g, P g → g < w.heap.size → w'.heap[g]? = w.heap[g]? ∧ Q g) : Tre w' Q v t := by
  obtain ⟨d, h⟩ := h; exact ⟨d, h.kept hf⟩
theorem Tre.moved {w w' : World} {rb : Nat} {P Q : Nat → Prop} {v : Value} {t : Tr} (h : Tre w P v t) (hf : Fr rb w w') (hl : ∀ g, P g → g ≠ rb ∧ Q g) : Tre w' Q v t :=
  h.kept fun g hg hlt => ⟨hf.block g hlt (hl g hg).1, (hl g hg).2⟩
theorem Tre.below {w w' : World} {P : Nat → Prop} {v : Value} {t : Tr} (h : Tre w P v t) (hf : Below w.heap.size w w') : Tre w' P v t :=
  h.kept fun g hg hlt => ⟨hf.block g hlt, hg⟩
theorem Tre.sub {w : World} {P Q : Nat → Prop} {v : Value} {t : Tr} (h : Tre w P v t) (hl : ∀ g, P g → Q g) : Tre w Q v t :=
  h.kept fun g hg _ => ⟨rfl, hl g hg⟩
theorem Tre.set {w : World} {P : Nat → Prop} {v : Value} {t : Tr} (h : Tre w P v t) {p : Addr} (hp : ¬ P p.block) (x : Value) : Tre (w.setCell p x) P v t :=
  h.kept fun g hg hlt => ⟨Below.heap_setCell _ _ _ _ (fun e => hp (e ▸ hg)), hg⟩
theorem Tre.alloc {w : World} {P : Nat → Prop} {v : Value} {t : Tr} (h : Tre w P v t) (o : Obj) : Tre (w.alloc o) P v t :=
  h.below ((Below.refl _ _).alloc (Nat.le_refl _) o)
theorem Tre.leaf (w : World) (P : Nat → Prop) {k n : Int} (hk : InR k) (hn : InR n) (nm : Bs) (hm : nm.length ≤ 9223372036854775807) : Tre w P (.agg #[.int .i64 k, .int .i64 n, .string (ba nm), .slice none 0 0]) ⟨k, n, nm, []⟩ :=
  ⟨1, none, 0, rfl, Nat.le_refl _, hk, hn, hm, Nat.zero_le _, fun i hi => by simp at hi⟩
theorem Tre.four {w : World} {P : Nat → Prop} {v : Value} {t : Tr} (h : Tre w P v t) : ∃ a cap, v = .agg #[.int .i64 t.kind, .int .i64 t.n, .string (ba t.name), .slice a t.kids.length cap] := by
  obtain ⟨d, h⟩ := h
  cases d with
  | zero => exact h.elim
  | succ d => obtain ⟨a, cap, h1, _⟩ := h; exact ⟨a, cap, h1⟩
theorem Tre.node1 {w : World} {P : Nat → Prop} {g : Nat} {k : Int} (hk : InR k) {u0 u1 u2 u3 : Value} {x : Tr} (h : Tre w P (.agg #[u0, u1, u2, u3]) x) (hg : P g)
    (c0 : w.cell? ⟨g, 0, none⟩ = some u0) (c1 : w.cell? ⟨g, 1, none⟩ = some u1) (c2 : w.cell? ⟨g, 2, none⟩ = some u2) (c3 : w.cell? ⟨g, 3, none⟩ = some u3) :
    Tre w P (.agg #[.int .i64 k, .int .i64 0, .string ⟨#[]⟩, .slice (some ⟨g, 0, none⟩) 1 1]) ⟨k, 0, [], [x]⟩ := by
  obtain ⟨d, h⟩ := h
  refine ⟨d + 1, _, 1, rfl, Nat.le_refl _, hk, inR_zero, (by show (0 : Nat) ≤ _; decide), (by show (1 : Nat) ≤ _; decide), fun i hi => ?_⟩
  have : i = 0 := by simp at hi; omega
  subst this
  exact ⟨g, 0, u0, u1, u2, u3, rfl, hg, c0, c1, c2, c3, h⟩
theorem Tre.node2 {w : World} {P : Nat → Prop} {g : Nat} {k : Int} (hk : InR k) {u0 u1 u2 u3 v0 v1 v2 v3 : Value} {x y : Tr} (h : Tre w P (.agg #[u0, u1, u2, u3]) x) (h' : Tre w P (.agg #[v0, v1, v2, v3]) y) (hg : P g)
    (c0 : w.cell? ⟨g, 0, none⟩ = some u0) (c1 : w.cell? ⟨g, 1, none⟩ = some u1) (c2 : w.cell? ⟨g, 2, none⟩ = some u2) (c3 : w.cell? ⟨g, 3, none⟩ = some u3)
    (c4 : w.cell? ⟨g, 4, none⟩ = some v0) (c5 : w.cell? ⟨g, 5, none⟩ = some v1) (c6 : w.cell? ⟨g, 6, none⟩ = some v2) (c7 : w.cell? ⟨g, 7, none⟩ = some v3) :
    Tre w P (.agg #[.int .i64 k, .int .i64 0, .string ⟨#[]⟩, .slice (some ⟨g, 0, none⟩) 2 2]) ⟨k, 0, [], [x, y]⟩ := by
  obtain ⟨d, h⟩ := h
  obtain ⟨d', h'⟩ := h'
  refine ⟨max d d' + 1, _, 2, rfl, Nat.le_refl _, hk, inR_zero, (by show (0 : Nat) ≤ _; decide), (by show (2 : Nat) ≤ _; decide), fun i hi => ?_⟩
  have : i = 0 ∨ i = 1 := by simp at hi; omega
  rcases this with rfl | rfl
  · exact ⟨g, 0, u0, u1, u2, u3, rfl, hg, c0, c1, c2, c3, h.mono (Nat.le_max_left _ _)⟩
  · exact ⟨g, 0, v0, v1, v2, v3, rfl, hg, c4, c5, c6, c7, h'.mono (Nat.le_max_right _ _)⟩
/-- Words that lie one behind the other, below rb. -/
def WsAt (w : World) (rb : Nat) : Option Addr → List W → Prop
  | _, [] => True
  | a, x :: r => ∃ b o, a = some ⟨b, o, none⟩ ∧ b < rb ∧ WAt w b o x ∧ WsAt w rb (some ⟨b, o + 4, none⟩) r
theorem WAt.fr {rb : Nat} {w w' : World} {b o : Nat} {x : W} (h : WAt w b o x) (hf : Fr rb w w') (hb : b ≠ rb) : WAt w' b o x :=
  ⟨hf.cell hb h.c0, hf.cell hb h.c1, hf.cell hb h.c2, hf.cell hb h.c3⟩
theorem WsAt.fr {rb : Nat} {w w' : World} (hf : Fr rb w w') : ∀ {a : Option Addr} {ws : List W}, WsAt w rb a ws → WsAt w' rb a ws
  | _, [], _ => True.intro
  | a, x :: r, ⟨b, o, h1, h2, h3, h4⟩ => ⟨b, o, h1, h2, h3.fr hf (by omega), h4.fr hf⟩
/-- A word of a text: signs are one byte, numbers fit. -/
def Wok (x : W) : Prop := (x.kind = 3 → ∃ c, x.text = [c]) ∧ x.n < 9223372036854775808 ∧ x.text.length ≤ 4096 ∧ x.kind ≤ 3 ∧ x.pos ≤ 4096
/-- The reader at rb has ws still to read. -/
structure Rd (w : World) (rb en : Nat) (ws : List W) : Prop where
  cells : ∃ a cap, w.cell? ⟨rb, 0, none⟩ = some (.slice a ws.length cap) ∧ ws.length ≤ cap ∧ WsAt w rb a ws
  last : w.cell? ⟨rb, 1, none⟩ = some (.int .i64 en)
  free : ∀ i, w.frozen? ⟨rb, i, none⟩ = false
  ok : ∀ x ∈ ws, Wok x
  len : ws.length ≤ 4096
theorem Rd.lt {w : World} {rb en : Nat} {ws : List W} (h : Rd w rb en ws) : rb < w.heap.size := World.block_lt_of_cell? w _ h.last
theorem Rd.below {w w' : World} {rb en : Nat} {ws : List W} (h : Rd w rb en ws) (hb : Below w.heap.size w w') : Rd w' rb en ws := by
  obtain ⟨a, cap, h1, h2, h4⟩ := h.cells
  refine ⟨⟨a, cap, (hb.cell (p := ⟨rb, 0, none⟩) h.lt).trans h1, h2, h4.fr (.of_below hb)⟩, (hb.cell (p := ⟨rb, 1, none⟩) h.lt).trans h.last, fun i => ?_, h.ok, h.len⟩
  have := h.free i
  simp only [World.frozen?] at this ⊢
  rw [hb.block rb h.lt]
  exact this
/-- Four cells of a block of the call's own. -/
structure Cell4 (w : World) (b : Nat) (v0 v1 v2 v3 : Value) : Prop where
  c0 : w.cell? ⟨b, 0, none⟩ = some v0
  c1 : w.cell? ⟨b, 1, none⟩ = some v1
  c2 : w.cell? ⟨b, 2, none⟩ = some v2
  c3 : w.cell? ⟨b, 3, none⟩ = some v3
  free : ∀ i, w.frozen? ⟨b, i, none⟩ = false
theorem Cell4.lt {w : World} {b : Nat} {v0 v1 v2 v3 : Value} (h : Cell4 w b v0 v1 v2 v3) : b < w.heap.size := World.block_lt_of_cell? w _ h.c0
theorem Cell4.new (w : World) (v0 v1 v2 v3 : Value) (t : TypeId) : Cell4 (w.alloc (.cells #[v0, v1, v2, v3] t)) w.heap.size v0 v1 v2 v3 := by
  have k := heap_alloc_new w (.cells #[v0, v1, v2, v3] t)
  refine ⟨?_, ?_, ?_, ?_, fun i => by simp only [World.frozen?]; rw [k]; simp⟩ <;> (rw [cell_of_row _ _ _ _ t (0, 0) k]; rfl)
theorem Cell4.fr {w w' : World} {rb b : Nat} {v0 v1 v2 v3 : Value} (h : Cell4 w b v0 v1 v2 v3) (hf : Fr rb w w') (hb : b ≠ rb) : Cell4 w' b v0 v1 v2 v3 :=
  ⟨hf.cell hb h.c0, hf.cell hb h.c1, hf.cell hb h.c2, hf.cell hb h.c3, fun i => (hf.frozen hb h.lt).trans (h.free i)⟩
theorem Cell4.below {w w' : World} {b : Nat} {v0 v1 v2 v3 : Value} (h : Cell4 w b v0 v1 v2 v3) (hf : Below w.heap.size w w') : Cell4 w' b v0 v1 v2 v3 :=
  h.fr (rb := b + 1) (.of_below hf) (by omega)
theorem Cell4.alloc {w : World} {b : Nat} {v0 v1 v2 v3 : Value} (h : Cell4 w b v0 v1 v2 v3) (o : Obj) : Cell4 (w.alloc o) b v0 v1 v2 v3 :=
  h.below ((Below.refl _ _).alloc (Nat.le_refl _) o)
theorem Rd.alloc {w : World} {rb en : Nat} {ws : List W} (h : Rd w rb en ws) (o : Obj) : Rd (w.alloc o) rb en ws := h.below ((Below.refl _ _).alloc (Nat.le_refl _) o)
theorem Rd.fr {w w' : World} {rb en g : Nat} {ws : List W} (h : Rd w rb en ws) (hf : Fr g w w') (hg : rb < g) : Rd w' rb en ws := by
  obtain ⟨a, cap, h1, h2, h4⟩ := h.cells
  have hws : ∀ {a : Option Addr} {ws : List W}, WsAt w rb a ws → WsAt w' rb a ws := by
    intro a ws
    induction ws generalizing a with
    | nil => exact fun _ => True.intro
    | cons x r ih => rintro ⟨b, o, k1, k2, k3, k4⟩; exact ⟨b, o, k1, k2, k3.fr hf (by omega), ih k4⟩
  exact ⟨⟨a, cap, hf.cell (by omega) h1, h2, hws h4⟩, hf.cell (by omega) h.last, fun i => (hf.frozen (by omega) h.lt).trans (h.free i), h.ok, h.len⟩
theorem Rd.set {w : World} {rb en : Nat} {ws : List W} (h : Rd w rb en ws) {p : Addr} (hp : rb < p.block) (v : Value) : Rd (w.setCell p v) rb en ws :=
  h.fr ((Fr.refl p.block w).setCell (.inl rfl) v) hp
/-- What a method of the reader leaves. -/
def Post (rb en : Nat) (w : World) (R : Res) (e : Ending) (w' : World) : Prop :=
  match R with
  | .ok (t, r) => (∃ (k n : Int) (s : ByteArray) (a : Option Addr) (l c : Nat), e = .returned (.agg #[.int .i64 k, .int .i64 n, .string s, .slice a l c]) ∧ Tre w' (fun g => w.heap.size ≤ g) (.agg #[.int .i64 k, .int .i64 n, .string s, .slice a l c]) t) ∧ Rd w' rb en r ∧ Fr rb w w'
  | .error (x, r) => e = .panicked [{ v := .iface 28 (.agg #[.int .i64 x, .int .i64 (atW en r)]), recovered := false }] ∧ Fr rb w w'
theorem Post.ok {rb en : Nat} {w w' : World} {v : Value} {t : Tr} {r : List W} (h : Tre w' (fun g => w.heap.size ≤ g) v t) (h2 : Rd w' rb en r) (h3 : Fr rb w w') : Post rb en w (.ok (t, r)) (.returned v) w' := by
  obtain ⟨a, c, rfl⟩ := h.four
  exact ⟨⟨_, _, _, _, _, _, rfl, h⟩, h2, h3⟩
end Go.Proofs.Ytjafjheffbbkmaa
