/-
  The document's own Same of shapes, and FlowShapes' walk.
-/
import Derived.Test.YtlaiacjlphjmlaaRfF
import Derived.Test.YtlaiacjlphjmlaaFyZ
import Derived.Test.YtlaiacjlphjmlaaCkZ
namespace Go.Proofs.Ytlaiacjlphjmlaa
open Go.RowKit
set_option linter.unusedVariables false

/-- A shape that reads as three rows. -/
structure ShV (w : World) (n1 : Nat) (a1 : Option Addr) (c1 : Nat) (n2 : Nat) (a2 : Option Addr) (c2 : Nat) (n3 : Nat) (a3 : Option Addr) (c3 : Nat) (l1 l2 l3 : List Nat) : Prop where
  f : Iv w (.slice a1 n1 c1) l1
  d : Iv w (.slice a2 n2 c2) l2
  j : Iv w (.slice a3 n3 c3) l3
theorem ShV.below {w w' : World} {n1 : Nat} {a1 : Option Addr} {c1 : Nat} {n2 : Nat} {a2 : Option Addr} {c2 : Nat} {n3 : Nat} {a3 : Option Addr} {c3 : Nat} {l1 l2 l3 : List Nat} (h : ShV w n1 a1 c1 n2 a2 c2 n3 a3 c3 l1 l2 l3) (hb : Below w.heap.size w w') : ShV w' n1 a1 c1 n2 a2 c2 n3 a3 c3 l1 l2 l3 := ⟨h.f.below hb, h.d.below hb, h.j.below hb⟩
def ShP (w : World) (oe : Nat) (l1 l2 l3 : List Nat) (e : Ending) (w' : World) : Prop := ∃ n1 a1 c1 n2 a2 c2 n3 a3 c3, e = .returned (.tuple #[.agg #[.slice a1 n1 c1, .slice a2 n2 c2, .slice a3 n3 c3], .int .i64 (oe : Nat)]) ∧ ShV w' n1 a1 c1 n2 a2 c2 n3 a3 c3 l1 l2 l3 ∧ Below w.heap.size w w'
def shL (d : Df) (l : List Nat) : List Nat := if ofE d = 0 then l else []
theorem Of_sh (P : Nat → Prop) (d : Df) (a : Option Addr) (c : Nat) (w : World) (hd : DfV w P d a c) : Calls Try.prog 8 #[.agg #[.string (ba d.id), .slice a d.places.length c]] w (ShP w (ofE d) (shL d (ofS d).fk) (shL d (ofS d).dp) (shL d (ofS d).jn)) := by
  refine (Of_any P d a c w hd).mono ?_
  have hcl : ofE d = 0 → d.places.length ≤ 9223372036854775807 := fun h => by have := (def_facts (show checkD d = 0 by by_cases q : checkD d = 0; exact q; unfold ofE at h; rw [if_pos q] at h; exact h)).len; omega
  rintro e w' ⟨h1, ⟨h2, rfl⟩ | ⟨h2, fb, db, jb, rfl, _, _, _, r1, r2, r3, ok⟩⟩
  · unfold shL; rw [if_neg h2, if_neg h2, if_neg h2]
    exact ⟨_, _, _, _, _, _, _, _, _, rfl, ⟨Iv.nil _, Iv.nil _, Iv.nil _⟩, h1⟩
  · unfold shL; rw [if_pos h2, if_pos h2, if_pos h2, h2]
    have i1 := Iv.row (c := d.places.length) r1 (by rw [ok.fk]; exact Nat.le_refl _) (hcl h2)
    have i2 := Iv.row (c := d.places.length) r2 (by rw [ok.dp]; exact Nat.le_refl _) (hcl h2)
    have i3 := Iv.row (c := d.places.length) r3 (by rw [ok.jn]; exact Nat.le_refl _) (hcl h2)
    rw [ok.fk] at i1; rw [ok.dp] at i2; rw [ok.jn] at i3
    exact ⟨_, _, _, _, _, _, _, _, _, rfl, ⟨i1, i2, i3⟩, h1⟩
theorem ROf_sh (P : Nat → Prop) (d : Df) (a : Option Addr) (c : Nat) (w : World) (hd : DfV w P d a c) : Calls Try.prog 9 #[.agg #[.string (ba d.id), .slice a d.places.length c]] w (ShP w (ofE d) (shL d (ofS d).fk) (shL d (ofS d).dp) (shL d (ofS d).jn)) := by
  refine (ROf_any P d a c w hd).mono ?_
  rintro e w' ⟨h1, ⟨h2, rfl⟩ | ⟨h2, v1, v2, v3, rfl, r1, r2, r3⟩⟩
  · unfold shL; rw [if_neg h2, if_neg h2, if_neg h2]
    exact ⟨_, _, _, _, _, _, _, _, _, rfl, ⟨Iv.nil _, Iv.nil _, Iv.nil _⟩, h1⟩
  · unfold shL; rw [if_pos h2, if_pos h2, if_pos h2, h2]
    have k1 := r1
    have k2 := r2
    have k3 := r3
    obtain ⟨_, _, rfl, _⟩ := k1
    obtain ⟨_, _, rfl, _⟩ := k2
    obtain ⟨_, _, rfl, _⟩ := k3
    exact ⟨_, _, _, _, _, _, _, _, _, rfl, ⟨r1, r2, r3⟩, h1⟩
theorem cell3_second (w : World) (o : Obj) (v0 v1 v2 : Value) (t : TypeId) : Cell3 ((w.alloc o).alloc (.cells #[v0, v1, v2] t)) (w.heap.size + 1) v0 v1 v2 := by
  have := Cell3.new (w.alloc o) v0 v1 v2 t
  rw [size_alloc] at this; exact this
set_option maxRecDepth 100000 in
set_option maxHeartbeats 1600000 in
theorem sameSh_any (n1 : Nat) (a1 : Option Addr) (c1 : Nat) (n2 : Nat) (a2 : Option Addr) (c2 : Nat) (n3 : Nat) (a3 : Option Addr) (c3 : Nat) (m1 : Nat) (b1 : Option Addr) (e1 : Nat) (m2 : Nat) (b2 : Option Addr) (e2 : Nat) (m3 : Nat) (b3 : Option Addr) (e3 : Nat) (l1 l2 l3 : List Nat) (w : World) (h : ShV w n1 a1 c1 n2 a2 c2 n3 a3 c3 l1 l2 l3) (g : ShV w m1 b1 e1 m2 b2 e2 m3 b3 e3 l1 l2 l3) :
    Calls Try.prog 10 #[.agg #[.slice a1 n1 c1, .slice a2 n2 c2, .slice a3 n3 c3], .agg #[.slice b1 m1 e1, .slice b2 m2 e2, .slice b3 m3 e3]] w fun e w' => e = .returned (.bool true) ∧ Below w.heap.size w w' := by
  have H1 : Hid (∀ o o2, Calls Try.prog 23 #[.slice a1 n1 c1, .slice b1 m1 e1] ((w.alloc o).alloc o2) fun e w' => e = .returned (.bool true) ∧ Below ((w.alloc o).alloc o2).heap.size ((w.alloc o).alloc o2) w') := fun o o2 => by
    have hb : Below w.heap.size w ((w.alloc o).alloc o2) := ((Below.refl _ _).alloc (Nat.le_refl _) o).alloc (le_alloc _ _) o2
    have := same_any _ _ _ _ _ (h.below hb).f (g.below hb).f
    rw [decide_eq_true rfl] at this; exact this
  have H2 : Hid (∀ wx, Below w.heap.size w wx → Calls Try.prog 23 #[.slice a2 n2 c2, .slice b2 m2 e2] wx fun e w' => e = .returned (.bool true) ∧ Below wx.heap.size wx w') := fun wx hb => by
    have := same_any _ _ _ _ _ (h.below hb).d (g.below hb).d
    rw [decide_eq_true rfl] at this; exact this
  have H3 : Hid (∀ wx, Below w.heap.size w wx → Calls Try.prog 23 #[.slice a3 n3 c3, .slice b3 m3 e3] wx fun e w' => e = .returned (.bool true) ∧ Below wx.heap.size wx w') := fun wx hb => by
    have := same_any _ _ _ _ _ (h.below hb).j (g.below hb).j
    rw [decide_eq_true rfl] at this; exact this
  clear h g
  go_enter Try.func10, Try.ntmps10
  go_wp2_with (first
    | (go_at_call 23; have := G2; refine (H3.out _ G2.out.1).mono ?_; rintro e w4 ⟨rfl, q⟩; have G3 : Hid (Below w.heap.size w w4) := G2.out.1.trans (q.mono G2.out.1.size); clear q G2)
    | (go_at_call 23; have := G1; refine (H2.out _ G1.out.1).mono ?_; rintro e w3 ⟨rfl, q⟩; have G2 : Hid (Below w.heap.size w w3 ∧ Cell3 w3 w.heap.size (.slice a1 n1 c1) (.slice a2 n2 c2) (.slice a3 n3 c3) ∧ Cell3 w3 (w.heap.size + 1) (.slice b1 m1 e1) (.slice b2 m2 e2) (.slice b3 m3 e3)) := ⟨G1.out.1.trans (q.mono G1.out.1.size), G1.out.2.1.kept (q.block _ G1.out.2.1.lt), G1.out.2.2.kept (q.block _ G1.out.2.2.lt)⟩; obtain ⟨y0, y1, y2, yf⟩ := G2.out.2.1; obtain ⟨z0, z1, z2, zf⟩ := G2.out.2.2; have ly := World.block_lt_of_cell? _ _ y0; have lz := World.block_lt_of_cell? _ _ z0; clear q G1)
    | (go_at_call 23; refine (H1.out _ _).mono ?_; rintro e w2 ⟨rfl, q⟩; have C2 := (Cell3.new w (.slice a1 n1 c1) (.slice a2 n2 c2) (.slice a3 n3 c3) 29).kept (heap_alloc_old (w.alloc (.cells #[.slice a1 n1 c1, .slice a2 n2 c2, .slice a3 n3 c3] 29)) (.cells #[.slice b1 m1 e1, .slice b2 m2 e2, .slice b3 m3 e3] 29) (Nat.lt_of_lt_of_eq (Nat.lt_succ_self _) (size_alloc _ _).symm)); have C3 := cell3_second w (.cells #[.slice a1 n1 c1, .slice a2 n2 c2, .slice a3 n3 c3] 29) (.slice b1 m1 e1) (.slice b2 m2 e2) (.slice b3 m3 e3) 29; have G1 : Hid (Below w.heap.size w w2 ∧ Cell3 w2 w.heap.size (.slice a1 n1 c1) (.slice a2 n2 c2) (.slice a3 n3 c3) ∧ Cell3 w2 (w.heap.size + 1) (.slice b1 m1 e1) (.slice b2 m2 e2) (.slice b3 m3 e3)) := ⟨below_new (below_new q), C2.kept (q.block _ C2.lt), C3.kept (q.block _ C3.lt)⟩; obtain ⟨y0, y1, y2, yf⟩ := G1.out.2.1; obtain ⟨z0, z1, z2, zf⟩ := G1.out.2.2; have ly := World.block_lt_of_cell? _ _ y0; have lz := World.block_lt_of_cell? _ _ z0; clear q C2 C3))
  go_ret
  exact ⟨rfl, G3.out⟩
set_option maxRecDepth 100000 in
set_option maxHeartbeats 1600000 in
theorem shapes_walk (d : Df) (a : Option Addr) (c n : Nat) (w : World) (w0 : DfV w (fun _ => True) d a c) (hn : d.places.length = n) :
    Calls Try.prog 3 #[.agg #[.string (ba d.id), .slice a n c]] w fun e w' => e = .returned (.bool true) ∧ Below w.heap.size w w' := by
  have H6 : Hid (∀ o, Calls Try.prog 6 #[.agg #[.string (ba d.id), .slice a n c]] (w.alloc o) fun e w' => (∃ b, e = .returned (.bool b)) ∧ Below (w.alloc o).heap.size (w.alloc o) w') := fun o => by
    have := light_any _ d a c _ (w0.kept (kept_below ((Below.refl _ _).alloc (Nat.le_refl _) o)))
    rw [hn] at this; exact this
  have H7 : Hid (∀ w, Calls Try.prog 7 #[] w fun e w' => e = .returned (.bool true) ∧ Below w.heap.size w w') := fun w => works_any w
  have H8 : Hid (∀ w2, Below w.heap.size w w2 → Calls Try.prog 8 #[.agg #[.string (ba d.id), .slice a n c]] w2 (ShP w2 (ofE d) (shL d (ofS d).fk) (shL d (ofS d).dp) (shL d (ofS d).jn))) := fun w2 q => by
    have := Of_sh _ d a c w2 (w0.kept (kept_below q))
    rw [hn] at this; exact this
  have H9 : Hid (∀ w2, Below w.heap.size w w2 → Calls Try.prog 9 #[.agg #[.string (ba d.id), .slice a n c]] w2 (ShP w2 (ofE d) (shL d (ofS d).fk) (shL d (ofS d).dp) (shL d (ofS d).jn))) := fun w2 q => by
    have := ROf_sh _ d a c w2 (w0.kept (kept_below q))
    rw [hn] at this; exact this
  clear w0 hn
  generalize shL d (ofS d).fk = l1 at *
  generalize shL d (ofS d).dp = l2 at *
  generalize shL d (ofS d).jn = l3 at *
  generalize ofE d = oe at *
  generalize ba d.id = ds at *
  go_enter Try.func3, Try.ntmps3
  go_wp2_with (go_at_call 6; refine (H6.out _).mono ?_; rintro e w1 ⟨⟨lb, rfl⟩, HB⟩; have HB1 : Hid (Below w.heap.size w w1 ∧ Cell2 w1 w.heap.size (.string ds) (.slice a n c)) := ⟨((Below.refl _ _).alloc (Nat.le_refl _) _).trans (HB.mono (le_alloc _ _)), (Cell2.new w _ _ 24).below HB⟩; obtain ⟨z0, z1, zf⟩ := HB1.out.2; have lz := World.block_lt_of_cell? _ _ z0; clear HB; cases lb)
  · go_wp2_with (go_at_call 7; refine (H7.out _).mono ?_; rintro e w2 ⟨rfl, HB⟩; have HB2 : Hid (Below w.heap.size w w2) := HB1.out.1.trans (HB.mono HB1.out.1.size); clear HB)
    go_ret
    exact ⟨rfl, HB2.out⟩
  · go_wp2_with (first
      | (go_at_call 7; have := G4; refine (H7.out _).mono ?_; rintro e w5 ⟨rfl, HB⟩; have G5 : Hid (Below w.heap.size w w5) := G4.out.trans (HB.mono G4.out.size); clear HB G4)
      | (go_at_call 10; have := G3; refine (sameSh_any _ _ _ _ _ _ _ _ _ _ _ _ _ _ _ _ _ _ _ _ _ _ (G3.out.2.1.below ((Below.refl _ _).alloc (Nat.le_refl _) _)) (G3.out.2.2.below ((Below.refl _ _).alloc (Nat.le_refl _) _))).mono ?_; rintro e w4 ⟨rfl, q⟩; have G4 : Hid (Below w.heap.size w w4) := (G3.out.1.alloc G3.out.1.size _).trans (q.mono (Nat.le_trans G3.out.1.size (le_alloc _ _))); clear q G3)
      | (go_at_call 9; have := G2; refine (H9.out _ (G2.out.1.alloc G2.out.1.size _)).mono ?_; rintro e w3 ⟨m1, b1, e1, m2, b2, e2, m3, b3, e3, rfl, q1, q2⟩; have qb := ((Below.refl w2.heap.size w2).alloc (Nat.le_refl _) (.cells #[.slice a1 n1 c1, .slice a2 n2 c2, .slice a3 n3 c3] 29)).trans (q2.mono (le_alloc _ _)); have C3 := (Cell3.new w2 (.slice a1 n1 c1) (.slice a2 n2 c2) (.slice a3 n3 c3) 29); have C4 := C3.kept (q2.block _ C3.lt); have G3 : Hid (Below w.heap.size w w3 ∧ ShV w3 n1 a1 c1 n2 a2 c2 n3 a3 c3 l1 l2 l3 ∧ ShV w3 m1 b1 e1 m2 b2 e2 m3 b3 e3 l1 l2 l3) := ⟨G2.out.1.trans (qb.mono G2.out.1.size), G2.out.2.below qb, q1⟩; obtain ⟨y0, y1, y2, yf⟩ := C4; have ly := World.block_lt_of_cell? _ _ y0; clear q1 q2 qb C3 G2)
      | (go_at_call 8; refine (H8.out _ HB1.out.1).mono ?_; rintro e w2 ⟨n1, a1, c1, n2, a2, c2, n3, a3, c3, rfl, q1, q2⟩; have G2 : Hid (Below w.heap.size w w2 ∧ ShV w2 n1 a1 c1 n2 a2 c2 n3 a3 c3 l1 l2 l3) := ⟨HB1.out.1.trans (q2.mono HB1.out.1.size), q1⟩; have C2 : Cell2 w2 w.heap.size (.string ds) (.slice a n c) := HB1.out.2.below q2; obtain ⟨x0, x1, xf⟩ := C2; have lx := World.block_lt_of_cell? _ _ x0; clear q1 q2))
    go_ret
    exact ⟨rfl, G5.out⟩
end Go.Proofs.Ytlaiacjlphjmlaa
