/-
  A sign between two sides, reckoned: contracts.
-/
import Derived.Test.YtdnpbnhfakjhoaaFolA
namespace Go.Proofs.Ytdnpbnhfakjhoaa
open Go.RowKit
set_option linter.unusedVariables false

def twoM (k : Int) (a b : Tr) : Tr :=
  if k = 13 ∨ k = 14 then (if a.kind = 3 ∨ a.kind = 4 then (if a.kind = (if k = 14 then 3 else 4) then a else b) else ⟨k, 0, [], [a, b]⟩)
  else if k = 11 ∨ k = 12 then (if plainK a.kind = true ∧ plainK b.kind = true then ansT (if k = 11 then decide (a.kind = b.kind ∧ a.n = b.n) else decide (a.n < b.n)) else ⟨k, 0, [], [a, b]⟩)
  else match (if a.kind = 1 ∧ b.kind = 1 then recM k a.n b.n else none) with
    | some r => ⟨1, r, [], []⟩
    | none => ⟨k, 0, [], [a, b]⟩
theorem three_new (w : World) (x0 x1 x2 x3 y0 y1 y2 y3 : Value) {w' : World} (HB : Below (((w.alloc (.cells #[x0, x1, x2, x3] 24)).alloc (.cells #[y0, y1, y2, y3] 24)).alloc (.cells #[.int .i64 0, .int .i64 0, .string ⟨#[]⟩, .slice none 0 0] 24)).heap.size (((w.alloc (.cells #[x0, x1, x2, x3] 24)).alloc (.cells #[y0, y1, y2, y3] 24)).alloc (.cells #[.int .i64 0, .int .i64 0, .string ⟨#[]⟩, .slice none 0 0] 24)) w') :
    Cell4 w' w.heap.size x0 x1 x2 x3 ∧ Cell4 w' (w.heap.size + 1) y0 y1 y2 y3 ∧ Cell4 w' (w.heap.size + 1 + 1) (.int .i64 0) (.int .i64 0) (.string ⟨#[]⟩) (.slice none 0 0) ∧ Below w.heap.size w w' := by
  have h1 := Cell4.new (w.alloc (.cells #[x0, x1, x2, x3] 24)) y0 y1 y2 y3 24
  rw [size_alloc] at h1
  have h2 := Cell4.new ((w.alloc (.cells #[x0, x1, x2, x3] 24)).alloc (.cells #[y0, y1, y2, y3] 24)) (.int .i64 0) (.int .i64 0) (.string ⟨#[]⟩) (.slice none 0 0) 24
  rw [size_alloc, size_alloc] at h2
  have h3 := (((Below.refl w.heap.size w).alloc (Nat.le_refl _) (.cells #[x0, x1, x2, x3] 24)).alloc (le_alloc _ _) (.cells #[y0, y1, y2, y3] 24)).alloc (Nat.le_trans (le_alloc _ _) (le_alloc _ _)) (.cells #[.int .i64 0, .int .i64 0, .string ⟨#[]⟩, .slice none 0 0] 24)
  exact ⟨(((Cell4.new w x0 x1 x2 x3 24).alloc _).alloc _).below HB, (h1.alloc _).below HB, h2.below HB, h3.trans (HB.mono h3.size)⟩
theorem node2_out {w W : World} (hb : Below w.heap.size w W) {base g : Nat} (hbase : base ≤ w.heap.size) {v0 v1 v2 v3 u0 u1 u2 u3 : Value} {s t : Tr} (hT : Tre w (fun g => base ≤ g) (.agg #[v0, v1, v2, v3]) s) (hU : Tre w (fun g => base ≤ g) (.agg #[u0, u1, u2, u3]) t) {k : Int} (hk : InR k) (hg : g = W.heap.size) :
    Tre (W.alloc (.cells #[v0, v1, v2, v3, u0, u1, u2, u3] 24)) (fun g => base ≤ g) (.agg #[.int .i64 k, .int .i64 0, .string ⟨#[]⟩, .slice (some ⟨g, 0, none⟩) 2 2]) ⟨k, 0, [], [s, t]⟩ ∧ Below w.heap.size w (W.alloc (.cells #[v0, v1, v2, v3, u0, u1, u2, u3] 24)) := by
  subst hg
  have h1 := hb.alloc hb.size (.cells #[v0, v1, v2, v3, u0, u1, u2, u3] 24)
  have hr := RowC.new W #[v0, v1, v2, v3, u0, u1, u2, u3] 24
  exact ⟨Tre.node2 hk (hT.below h1) (hU.below h1) (show base ≤ W.heap.size by have := hb.size; omega) (hr 0 _ rfl) (hr 1 _ rfl) (hr 2 _ rfl) (hr 3 _ rfl) (hr 4 _ rfl) (hr 5 _ rfl) (hr 6 _ rfl) (hr 7 _ rfl), h1⟩
/-- Where the three boxes and what is known lie. -/
structure Sit (w W : World) (z : Nat) (x0 x1 x2 x3 y0 y1 y2 y3 k0 k1 k2 k3 : Value) : Prop where
  a : Cell4 W w.heap.size x0 x1 x2 x3
  b : Cell4 W (w.heap.size + 1) y0 y1 y2 y3
  r : Cell4 W (w.heap.size + 1 + 1) (.int .i64 0) (.int .i64 0) (.string ⟨#[]⟩) (.slice none 0 0)
  z : Cell4 W z k0 k1 k2 k3
  bel : Below w.heap.size w W
theorem Sit.below {w W W' : World} {z : Nat} {x0 x1 x2 x3 y0 y1 y2 y3 k0 k1 k2 k3 : Value} (h : Sit w W z x0 x1 x2 x3 y0 y1 y2 y3 k0 k1 k2 k3) (hb : Below W.heap.size W W') : Sit w W' z x0 x1 x2 x3 y0 y1 y2 y3 k0 k1 k2 k3 :=
  ⟨h.a.below hb, h.b.below hb, h.r.below hb, h.z.below hb, h.bel.trans (hb.mono h.bel.size)⟩
theorem Cell4.put {w : World} {M : Nat} {v0 v1 v2 v3 u0 u1 u2 u3 : Value} (h : Cell4 w M v0 v1 v2 v3) : Cell4 ((((w.setCell ⟨M, 0, none⟩ u0).setCell ⟨M, 0 + 1, none⟩ u1).setCell ⟨M, 0 + 2, none⟩ u2).setCell ⟨M, 0 + 3, none⟩ u3) M u0 u1 u2 u3 := by
  obtain ⟨h0, h1, h2, h3⟩ := four_put (w := w) (M := M) (o := 0) (u0 := u0) (u1 := u1) (u2 := u2) (u3 := u3) (fun j hj => by
    match j, hj with
    | 0, _ => exact ⟨_, h.c0⟩
    | 1, _ => exact ⟨_, h.c1⟩
    | 2, _ => exact ⟨_, h.c2⟩
    | 3, _ => exact ⟨_, h.c3⟩)
  exact ⟨h0, h1, h2, h3, fun i => by simp only [World.frozen?_setCell]; exact h.free i⟩
set_option maxRecDepth 100000 in
set_option maxHeartbeats 400000 in
theorem chosen_left (k ka na kb nb : Int) (sa sb : ByteArray) (aa ab : Option Addr) (la ca lb cb : Nat) (hc : ka = if k = 14 then 3 else 4) (w : World) : Calls Try.prog 77 #[.int .i64 k, .agg #[.int .i64 ka, .int .i64 na, .string sa, .slice aa la ca], .agg #[.int .i64 kb, .int .i64 nb, .string sb, .slice ab lb cb]] w fun e w' => e = .returned (.agg #[.int .i64 ka, .int .i64 na, .string sa, .slice aa la ca]) ∧ Below w.heap.size w w' := by
  by_cases h : k = 14
  · rw [if_pos h] at hc
    subst h; subst hc
    go_enter Try.func77, Try.ntmps77
    go_wp2
    refine bodyPost_ret (v := .agg #[.int .i64 3, .int .i64 na, .string sa, .slice aa la ca]) (by simp [results, Try.results77, go_sem]) rfl ⟨rfl, ?_⟩
    exact (((Below.refl _ _).alloc (Nat.le_refl _) _).alloc (le_alloc _ _) _).alloc (Nat.le_trans (le_alloc _ _) (le_alloc _ _)) _
  · rw [if_neg h] at hc
    subst hc
    have h2 : (k == 14) = false := by simpa using h
    clear h
    go_enter Try.func77, Try.ntmps77
    go_wp2
    refine bodyPost_ret (v := .agg #[.int .i64 4, .int .i64 na, .string sa, .slice aa la ca]) (by simp [results, Try.results77, go_sem]) rfl ⟨rfl, ?_⟩
    exact (((Below.refl _ _).alloc (Nat.le_refl _) _).alloc (le_alloc _ _) _).alloc (Nat.le_trans (le_alloc _ _) (le_alloc _ _)) _
set_option maxRecDepth 100000 in
set_option maxHeartbeats 400000 in
theorem chosen_right (k ka na kb nb : Int) (sa sb : ByteArray) (aa ab : Option Addr) (la ca lb cb : Nat) (hc : ¬ ka = if k = 14 then 3 else 4) (w : World) : Calls Try.prog 77 #[.int .i64 k, .agg #[.int .i64 ka, .int .i64 na, .string sa, .slice aa la ca], .agg #[.int .i64 kb, .int .i64 nb, .string sb, .slice ab lb cb]] w fun e w' => e = .returned (.agg #[.int .i64 kb, .int .i64 nb, .string sb, .slice ab lb cb]) ∧ Below w.heap.size w w' := by
  by_cases h : k = 14
  · rw [if_pos h] at hc
    subst h
    have h3 : (ka == 3) = false := by simpa using hc
    clear hc
    go_enter Try.func77, Try.ntmps77
    go_wp2
    refine bodyPost_ret (v := .agg #[.int .i64 kb, .int .i64 nb, .string sb, .slice ab lb cb]) (by simp [results, Try.results77, go_sem]) rfl ⟨rfl, ?_⟩
    exact (((Below.refl _ _).alloc (Nat.le_refl _) _).alloc (le_alloc _ _) _).alloc (Nat.le_trans (le_alloc _ _) (le_alloc _ _)) _
  · rw [if_neg h] at hc
    have h3 : (ka == 4) = false := by simpa using hc
    have h2 : (k == 14) = false := by simpa using h
    clear h hc
    go_enter Try.func77, Try.ntmps77
    go_wp2
    refine bodyPost_ret (v := .agg #[.int .i64 kb, .int .i64 nb, .string sb, .slice ab lb cb]) (by simp [results, Try.results77, go_sem]) rfl ⟨rfl, ?_⟩
    exact (((Below.refl _ _).alloc (Nat.le_refl _) _).alloc (le_alloc _ _) _).alloc (Nat.le_trans (le_alloc _ _) (le_alloc _ _)) _
set_option maxRecDepth 100000 in
set_option maxHeartbeats 1000000 in
theorem two_left (base : Nat) (k : Int) (HKi : Hid (InR k)) (ta tb : Tr) (ka na kb nb : Int) (sa sb : ByteArray) (aa ab : Option Addr) (la ca lb cb : Nat) (w : World) (HTa : Hid (Tre w (fun g => base ≤ g) (.agg #[.int .i64 ka, .int .i64 na, .string sa, .slice aa la ca]) ta)) (HTb : Hid (Tre w (fun g => base ≤ g) (.agg #[.int .i64 kb, .int .i64 nb, .string sb, .slice ab lb cb]) tb)) (hbase : base ≤ w.heap.size) (hk : k = 13 ∨ k = 14) (hx : (knK ka) = 3 ∨ (knK ka) = 4) (hc : ka = if k = 14 then 3 else 4) :
    Calls Try.prog 50 #[.int .i64 k, .agg #[.int .i64 ka, .int .i64 na, .string sa, .slice aa la ca], .agg #[.int .i64 kb, .int .i64 nb, .string sb, .slice ab lb cb]] w (FPost base w ta) := by
  have HC : Hid (∀ w, Calls Try.prog 77 #[.int .i64 k, .agg #[.int .i64 ka, .int .i64 na, .string sa, .slice aa la ca], .agg #[.int .i64 kb, .int .i64 nb, .string sb, .slice ab lb cb]] w fun e w' => e = .returned (.agg #[.int .i64 ka, .int .i64 na, .string sa, .slice aa la ca]) ∧ Below w.heap.size w w') := chosen_left k ka na kb nb sa sb aa ab la ca lb cb hc
  have HT : Hid (∀ w, Calls Try.prog 75 #[.agg #[.int .i64 (knK ka), .int .i64 (knN ka na)]] w fun e w' => e = .returned (.bool true) ∧ Below w.heap.size w w') := fun w => by have := isTruth_any (knK ka) (knN ka na) w; rw [decide_eq_true hx] at this; exact this
  have hkb : (k == 13) = true ∨ (k == 13) = false ∧ (k == 14) = true := by simp; omega
  clear hk hx hc
  obtain ⟨w0, hw0⟩ : ∃ w0, w0 = ((w.alloc (.cells #[.int .i64 ka, .int .i64 na, .string sa, .slice aa la ca] 24)).alloc (.cells #[.int .i64 kb, .int .i64 nb, .string sb, .slice ab lb cb] 24)).alloc (.cells #[.int .i64 0, .int .i64 0, .string ⟨#[]⟩, .slice none 0 0] 24) := ⟨_, rfl⟩
  have HX : Hid (∀ w', Below w0.heap.size w0 w' → Cell4 w' w.heap.size (.int .i64 ka) (.int .i64 na) (.string sa) (.slice aa la ca) ∧ Cell4 w' (w.heap.size + 1) (.int .i64 kb) (.int .i64 nb) (.string sb) (.slice ab lb cb) ∧ Cell4 w' (w.heap.size + 1 + 1) (.int .i64 0) (.int .i64 0) (.string ⟨#[]⟩) (.slice none 0 0) ∧ Below w.heap.size w w') := fun w' h => by rw [hw0] at h; exact three_new w _ _ _ _ _ _ _ _ h
  have HXn : Hid (w0.heap.size = w.heap.size + 3) := by unfold Hid; rw [hw0, size_alloc, size_alloc, size_alloc]
  go_enter Try.func50, Try.ntmps50
  go_wp2_with fail
  rw [← hw0]
  clear hw0
  obtain ⟨⟨p0, p1, p2, p3, p4⟩, ⟨q0, q1, q2, q3, q4⟩, ⟨r0, r1, r2, r3, r4⟩, _⟩ := HX.out _ (Below.refl _ _)
  have n0 : w0.heap.size ≠ w.heap.size := Nat.ne_of_gt (World.block_lt_of_cell? _ _ p0)
  have m0 : w0.heap.size ≠ w.heap.size + 1 := Nat.ne_of_gt (World.block_lt_of_cell? _ _ q0)
  have HS : Hid (Below w0.heap.size w0 w0.drew) := Below.drew (Below.refl _ _)
  go_region_held3 (fun w' => w'.cell? ⟨w.heap.size, 0, none⟩ = some (.int .i64 ka) ∧ w'.cell? ⟨w.heap.size, 1, none⟩ = some (.int .i64 na) ∧ w'.cell? ⟨w.heap.size, 2, none⟩ = some (.string sa) ∧ w'.cell? ⟨w.heap.size, 3, none⟩ = some (.slice aa la ca) ∧ w'.cell? ⟨w.heap.size + 1, 0, none⟩ = some (.int .i64 kb) ∧ w'.cell? ⟨w.heap.size + 1, 1, none⟩ = some (.int .i64 nb) ∧ w'.cell? ⟨w.heap.size + 1, 2, none⟩ = some (.string sb) ∧ w'.cell? ⟨w.heap.size + 1, 3, none⟩ = some (.slice ab lb cb)) (go_keep) (first
    | (go_at_call 74; have := HZ2; refine (know_any _ _ _ _ _ _ _).mono ?_; rintro e w5 ⟨rfl, HB⟩; have HZ3 : Hid (Below w0.heap.size w0 w5 ∧ Cell4 w5 w0.heap.size (.int .i64 0) (.int .i64 0) (.int .i64 0) (.int .i64 0)) := ⟨HZ2.out.1.trans (HB.mono HZ2.out.1.size), HZ2.out.2.below HB⟩; obtain ⟨z0, z1, z2, z3, z4⟩ := HZ3.out.2; obtain ⟨⟨p0, p1, p2, p3, p4⟩, ⟨q0, q1, q2, q3, q4⟩, ⟨r0, r1, r2, r3, r4⟩, _⟩ := HX.out _ HZ3.out.1; clear HB)
    | (go_at_call 74; have := HS2; refine (know_any _ _ _ _ _ _ _).mono ?_; rintro e w5 ⟨rfl, HB⟩; have HZ4 : Hid (Below w0.heap.size w0 w5 ∧ Cell4 w5 w4.heap.size (.int .i64 0) (.int .i64 0) (.int .i64 0) (.int .i64 0)) := ⟨(HS2.out.alloc HS2.out.size (.cells #[.int .i64 0, .int .i64 0, .int .i64 0, .int .i64 0] 97)).trans (HB.mono (Nat.le_trans HS2.out.size (le_alloc _ _))), (Cell4.new w4 (.int .i64 0) (.int .i64 0) (.int .i64 0) (.int .i64 0) 97).below HB⟩; obtain ⟨z0, z1, z2, z3, z4⟩ := HZ4.out.2; obtain ⟨⟨p0, p1, p2, p3, p4⟩, ⟨q0, q1, q2, q3, q4⟩, ⟨r0, r1, r2, r3, r4⟩, _⟩ := HX.out _ HZ4.out.1; clear HB)
    | (go_at_call 74; have := HS2; refine (know_any _ _ _ _ _ _ _).mono ?_; rintro e w5 ⟨rfl, HB⟩; have HS3 : Hid (Below w0.heap.size w0 w5) := HS2.out.trans (HB.mono HS2.out.size); obtain ⟨⟨p0, p1, p2, p3, p4⟩, ⟨q0, q1, q2, q3, q4⟩, ⟨r0, r1, r2, r3, r4⟩, _⟩ := HX.out _ HS3.out; have n5 : w5.heap.size ≠ w.heap.size := Nat.ne_of_gt (World.block_lt_of_cell? _ _ p0); have m5 : w5.heap.size ≠ w.heap.size + 1 := Nat.ne_of_gt (World.block_lt_of_cell? _ _ q0); clear HB)
    | (go_at_call 74; refine (know_any _ _ _ _ _ _ _).mono ?_; rintro e w4 ⟨rfl, HB⟩; have HZ2 : Hid (Below w0.heap.size w0 w4 ∧ Cell4 w4 w0.heap.size (.int .i64 0) (.int .i64 0) (.int .i64 0) (.int .i64 0)) := ⟨(HS.out.alloc HS.out.size (.cells #[.int .i64 0, .int .i64 0, .int .i64 0, .int .i64 0] 97)).trans (HB.mono (Nat.le_trans HS.out.size (le_alloc _ _))), (Cell4.new w0.drew (.int .i64 0) (.int .i64 0) (.int .i64 0) (.int .i64 0) 97).below HB⟩; obtain ⟨z0, z1, z2, z3, z4⟩ := HZ2.out.2; obtain ⟨⟨p0, p1, p2, p3, p4⟩, ⟨q0, q1, q2, q3, q4⟩, ⟨r0, r1, r2, r3, r4⟩, _⟩ := HX.out _ HZ2.out.1; clear HB)
    | (go_at_call 74; refine (know_any _ _ _ _ _ _ _).mono ?_; rintro e w4 ⟨rfl, HB⟩; have HS2 : Hid (Below w0.heap.size w0 w4) := HS.out.trans (HB.mono HS.out.size); obtain ⟨⟨p0, p1, p2, p3, p4⟩, ⟨q0, q1, q2, q3, q4⟩, ⟨r0, r1, r2, r3, r4⟩, _⟩ := HX.out _ HS2.out; have n4 : w4.heap.size ≠ w.heap.size := Nat.ne_of_gt (World.block_lt_of_cell? _ _ p0); have m4 : w4.heap.size ≠ w.heap.size + 1 := Nat.ne_of_gt (World.block_lt_of_cell? _ _ q0); clear HB))
  all_goals first
    | (have := HS3
       obtain ⟨w6, hw6⟩ : ∃ w6, w6 = w5.alloc (.cells #[.int .i64 (knK ka), .int .i64 (knN ka na), .int .i64 (knK kb), .int .i64 (knN kb nb)] 97) := ⟨_, rfl⟩
       obtain ⟨z, hz⟩ : ∃ z, z = w5.heap.size := ⟨_, rfl⟩
       have HY : Hid (Sit w w6 z (.int .i64 ka) (.int .i64 na) (.string sa) (.slice aa la ca) (.int .i64 kb) (.int .i64 nb) (.string sb) (.slice ab lb cb) (.int .i64 (knK ka)) (.int .i64 (knN ka na)) (.int .i64 (knK kb)) (.int .i64 (knN kb nb))) := by
         obtain ⟨h1, h2, h3, h4⟩ := HX.out _ HS3.out
         rw [hw6, hz]; exact ⟨h1.alloc _, h2.alloc _, h3.alloc _, Cell4.new w5 _ _ _ _ 97, h4.alloc h4.size _⟩
       rw [← hw6, ← hz]
       clear hw6 hz HS3 HS2 n5 m5 n4 m4)
    | (have := HZ4
       obtain ⟨w6, hw6⟩ : ∃ w6, w6 = (((w5.setCell ⟨w4.heap.size, 0, none⟩ (.int .i64 (knK ka))).setCell ⟨w4.heap.size, 0 + 1, none⟩ (.int .i64 (knN ka na))).setCell ⟨w4.heap.size, 0 + 2, none⟩ (.int .i64 (knK kb))).setCell ⟨w4.heap.size, 0 + 3, none⟩ (.int .i64 (knN kb nb)) := ⟨_, rfl⟩
       obtain ⟨z, hz⟩ : ∃ z, z = w4.heap.size := ⟨_, rfl⟩
       have HY : Hid (Sit w w6 z (.int .i64 ka) (.int .i64 na) (.string sa) (.slice aa la ca) (.int .i64 kb) (.int .i64 nb) (.string sb) (.slice ab lb cb) (.int .i64 (knK ka)) (.int .i64 (knN ka na)) (.int .i64 (knK kb)) (.int .i64 (knN kb nb))) := by
         obtain ⟨h1, h2, h3, h4⟩ := HX.out _ HZ4.out.1
         have hge := HS2.out.size
         have hgn := HXn.out
         rw [hw6, hz]; exact ⟨h1.four (by omega), h2.four (by omega), h3.four (by omega), HZ4.out.2.put, below_four h4 (by omega)⟩
       simp only [Nat.zero_add] at hw6
       rw [← hw6, ← hz]
       clear hw6 hz HZ4 HS2 n4 m4)
    | (have := HZ3
       obtain ⟨w6, hw6⟩ : ∃ w6, w6 = (((w5.setCell ⟨w0.heap.size, 0, none⟩ (.int .i64 (knK ka))).setCell ⟨w0.heap.size, 0 + 1, none⟩ (.int .i64 (knN ka na))).setCell ⟨w0.heap.size, 0 + 2, none⟩ (.int .i64 (knK kb))).setCell ⟨w0.heap.size, 0 + 3, none⟩ (.int .i64 (knN kb nb)) := ⟨_, rfl⟩
       obtain ⟨z, hz⟩ : ∃ z, z = w0.heap.size := ⟨_, rfl⟩
       have HY : Hid (Sit w w6 z (.int .i64 ka) (.int .i64 na) (.string sa) (.slice aa la ca) (.int .i64 kb) (.int .i64 nb) (.string sb) (.slice ab lb cb) (.int .i64 (knK ka)) (.int .i64 (knN ka na)) (.int .i64 (knK kb)) (.int .i64 (knN kb nb))) := by
         obtain ⟨h1, h2, h3, h4⟩ := HX.out _ HZ3.out.1
         have hgn := HXn.out
         rw [hw6, hz]; exact ⟨h1.four (by omega), h2.four (by omega), h3.four (by omega), HZ3.out.2.put, below_four h4 (by omega)⟩
       simp only [Nat.zero_add] at hw6
       rw [← hw6, ← hz]
       clear hw6 hz HZ3 HZ2)
  all_goals (
    generalize knK ka = xa at *
    generalize knN ka na = ya at *
    generalize knK kb = xb at *
    generalize knN kb nb = yb at *
    obtain ⟨p0, p1, p2, p3, p4⟩ := HY.out.a
    obtain ⟨q0, q1, q2, q3, q4⟩ := HY.out.b
    obtain ⟨r0, r1, r2, r3, r4⟩ := HY.out.r
    obtain ⟨z0, z1, z2, z3, z4⟩ := HY.out.z
    have hlz := World.block_lt_of_cell? _ _ z0
    have hlp := World.block_lt_of_cell? _ _ p0
    have hlq := World.block_lt_of_cell? _ _ q0
    have hlr := World.block_lt_of_cell? _ _ r0
    rcases hkb with hkb | ⟨hkb, hkc⟩
    all_goals (
      go_wp2_with (first
        | (go_at_call 77; have := HY7; refine (HC.out _).mono ?_; rintro e w8 ⟨rfl, HB⟩; have HY8 : Hid (Sit w w8 z (.int .i64 ka) (.int .i64 na) (.string sa) (.slice aa la ca) (.int .i64 kb) (.int .i64 nb) (.string sb) (.slice ab lb cb) (.int .i64 xa) (.int .i64 ya) (.int .i64 xb) (.int .i64 yb)) := HY7.out.below HB; obtain ⟨p0, p1, p2, p3, p4⟩ := HY8.out.a; obtain ⟨q0, q1, q2, q3, q4⟩ := HY8.out.b; obtain ⟨r0, r1, r2, r3, r4⟩ := HY8.out.r; obtain ⟨z0, z1, z2, z3, z4⟩ := HY8.out.z; have hlz := World.block_lt_of_cell? _ _ z0; have hlp := World.block_lt_of_cell? _ _ p0; have hlq := World.block_lt_of_cell? _ _ q0; have hlr := World.block_lt_of_cell? _ _ r0; clear HB HY7)
        | (go_at_call 75; have := HY; refine (HT.out _).mono ?_; rintro e w7 ⟨rfl, HB⟩; have HY7 : Hid (Sit w w7 z (.int .i64 ka) (.int .i64 na) (.string sa) (.slice aa la ca) (.int .i64 kb) (.int .i64 nb) (.string sb) (.slice ab lb cb) (.int .i64 xa) (.int .i64 ya) (.int .i64 xb) (.int .i64 yb)) := HY.out.below HB; obtain ⟨p0, p1, p2, p3, p4⟩ := HY7.out.a; obtain ⟨q0, q1, q2, q3, q4⟩ := HY7.out.b; obtain ⟨r0, r1, r2, r3, r4⟩ := HY7.out.r; obtain ⟨z0, z1, z2, z3, z4⟩ := HY7.out.z; have hlz := World.block_lt_of_cell? _ _ z0; have hlp := World.block_lt_of_cell? _ _ p0; have hlq := World.block_lt_of_cell? _ _ q0; have hlr := World.block_lt_of_cell? _ _ r0; clear HB HY))
      refine bodyPost_ret (v := .agg #[.int .i64 ka, .int .i64 na, .string sa, .slice aa la ca]) (by simp [results, Try.results50, go_sem, r0, r1, r2, r3]) rfl ⟨_, _, _, _, _, _, rfl, ?_⟩
      have hf := below_four HY8.out.bel (M := w.heap.size + 1 + 1) (o := 0) (u0 := .int .i64 ka) (u1 := .int .i64 na) (u2 := .string sa) (u3 := .slice aa la ca) (by omega)
      exact ⟨HTa.out.below hf, hf⟩))
set_option maxRecDepth 100000 in
set_option maxHeartbeats 1000000 in
theorem two_right (base : Nat) (k : Int) (HKi : Hid (InR k)) (ta tb : Tr) (ka na kb nb : Int) (sa sb : ByteArray) (aa ab : Option Addr) (la ca lb cb : Nat) (w : World) (HTa : Hid (Tre w (fun g => base ≤ g) (.agg #[.int .i64 ka, .int .i64 na, .string sa, .slice aa la ca]) ta)) (HTb : Hid (Tre w (fun g => base ≤ g) (.agg #[.int .i64 kb, .int .i64 nb, .string sb, .slice ab lb cb]) tb)) (hbase : base ≤ w.heap.size) (hk : k = 13 ∨ k = 14) (hx : (knK ka) = 3 ∨ (knK ka) = 4) (hc : ¬ ka = if k = 14 then 3 else 4) :
    Calls Try.prog 50 #[.int .i64 k, .agg #[.int .i64 ka, .int .i64 na, .string sa, .slice aa la ca], .agg #[.int .i64 kb, .int .i64 nb, .string sb, .slice ab lb cb]] w (FPost base w tb) := by
  have HC : Hid (∀ w, Calls Try.prog 77 #[.int .i64 k, .agg #[.int .i64 ka, .int .i64 na, .string sa, .slice aa la ca], .agg #[.int .i64 kb, .int .i64 nb, .string sb, .slice ab lb cb]] w fun e w' => e = .returned (.agg #[.int .i64 kb, .int .i64 nb, .string sb, .slice ab lb cb]) ∧ Below w.heap.size w w') := chosen_right k ka na kb nb sa sb aa ab la ca lb cb hc
  have HT : Hid (∀ w, Calls Try.prog 75 #[.agg #[.int .i64 (knK ka), .int .i64 (knN ka na)]] w fun e w' => e = .returned (.bool true) ∧ Below w.heap.size w w') := fun w => by have := isTruth_any (knK ka) (knN ka na) w; rw [decide_eq_true hx] at this; exact this
  have hkb : (k == 13) = true ∨ (k == 13) = false ∧ (k == 14) = true := by simp; omega
  clear hk hx hc
  obtain ⟨w0, hw0⟩ : ∃ w0, w0 = ((w.alloc (.cells #[.int .i64 ka, .int .i64 na, .string sa, .slice aa la ca] 24)).alloc (.cells #[.int .i64 kb, .int .i64 nb, .string sb, .slice ab lb cb] 24)).alloc (.cells #[.int .i64 0, .int .i64 0, .string ⟨#[]⟩, .slice none 0 0] 24) := ⟨_, rfl⟩
  have HX : Hid (∀ w', Below w0.heap.size w0 w' → Cell4 w' w.heap.size (.int .i64 ka) (.int .i64 na) (.string sa) (.slice aa la ca) ∧ Cell4 w' (w.heap.size + 1) (.int .i64 kb) (.int .i64 nb) (.string sb) (.slice ab lb cb) ∧ Cell4 w' (w.heap.size + 1 + 1) (.int .i64 0) (.int .i64 0) (.string ⟨#[]⟩) (.slice none 0 0) ∧ Below w.heap.size w w') := fun w' h => by rw [hw0] at h; exact three_new w _ _ _ _ _ _ _ _ h
  have HXn : Hid (w0.heap.size = w.heap.size + 3) := by unfold Hid; rw [hw0, size_alloc, size_alloc, size_alloc]
  go_enter Try.func50, Try.ntmps50
  go_wp2_with fail
  rw [← hw0]
  clear hw0
  obtain ⟨⟨p0, p1, p2, p3, p4⟩, ⟨q0, q1, q2, q3, q4⟩, ⟨r0, r1, r2, r3, r4⟩, _⟩ := HX.out _ (Below.refl _ _)
  have n0 : w0.heap.size ≠ w.heap.size := Nat.ne_of_gt (World.block_lt_of_cell? _ _ p0)
  have m0 : w0.heap.size ≠ w.heap.size + 1 := Nat.ne_of_gt (World.block_lt_of_cell? _ _ q0)
  have HS : Hid (Below w0.heap.size w0 w0.drew) := Below.drew (Below.refl _ _)
  go_region_held3 (fun w' => w'.cell? ⟨w.heap.size, 0, none⟩ = some (.int .i64 ka) ∧ w'.cell? ⟨w.heap.size, 1, none⟩ = some (.int .i64 na) ∧ w'.cell? ⟨w.heap.size, 2, none⟩ = some (.string sa) ∧ w'.cell? ⟨w.heap.size, 3, none⟩ = some (.slice aa la ca) ∧ w'.cell? ⟨w.heap.size + 1, 0, none⟩ = some (.int .i64 kb) ∧ w'.cell? ⟨w.heap.size + 1, 1, none⟩ = some (.int .i64 nb) ∧ w'.cell? ⟨w.heap.size + 1, 2, none⟩ = some (.string sb) ∧ w'.cell? ⟨w.heap.size + 1, 3, none⟩ = some (.slice ab lb cb)) (go_keep) (first
    | (go_at_call 74; have := HZ2; refine (know_any _ _ _ _ _ _ _).mono ?_; rintro e w5 ⟨rfl, HB⟩; have HZ3 : Hid (Below w0.heap.size w0 w5 ∧ Cell4 w5 w0.heap.size (.int .i64 0) (.int .i64 0) (.int .i64 0) (.int .i64 0)) := ⟨HZ2.out.1.trans (HB.mono HZ2.out.1.size), HZ2.out.2.below HB⟩; obtain ⟨z0, z1, z2, z3, z4⟩ := HZ3.out.2; obtain ⟨⟨p0, p1, p2, p3, p4⟩, ⟨q0, q1, q2, q3, q4⟩, ⟨r0, r1, r2, r3, r4⟩, _⟩ := HX.out _ HZ3.out.1; clear HB)
    | (go_at_call 74; have := HS2; refine (know_any _ _ _ _ _ _ _).mono ?_; rintro e w5 ⟨rfl, HB⟩; have HZ4 : Hid (Below w0.heap.size w0 w5 ∧ Cell4 w5 w4.heap.size (.int .i64 0) (.int .i64 0) (.int .i64 0) (.int .i64 0)) := ⟨(HS2.out.alloc HS2.out.size (.cells #[.int .i64 0, .int .i64 0, .int .i64 0, .int .i64 0] 97)).trans (HB.mono (Nat.le_trans HS2.out.size (le_alloc _ _))), (Cell4.new w4 (.int .i64 0) (.int .i64 0) (.int .i64 0) (.int .i64 0) 97).below HB⟩; obtain ⟨z0, z1, z2, z3, z4⟩ := HZ4.out.2; obtain ⟨⟨p0, p1, p2, p3, p4⟩, ⟨q0, q1, q2, q3, q4⟩, ⟨r0, r1, r2, r3, r4⟩, _⟩ := HX.out _ HZ4.out.1; clear HB)
    | (go_at_call 74; have := HS2; refine (know_any _ _ _ _ _ _ _).mono ?_; rintro e w5 ⟨rfl, HB⟩; have HS3 : Hid (Below w0.heap.size w0 w5) := HS2.out.trans (HB.mono HS2.out.size); obtain ⟨⟨p0, p1, p2, p3, p4⟩, ⟨q0, q1, q2, q3, q4⟩, ⟨r0, r1, r2, r3, r4⟩, _⟩ := HX.out _ HS3.out; have n5 : w5.heap.size ≠ w.heap.size := Nat.ne_of_gt (World.block_lt_of_cell? _ _ p0); have m5 : w5.heap.size ≠ w.heap.size + 1 := Nat.ne_of_gt (World.block_lt_of_cell? _ _ q0); clear HB)
    | (go_at_call 74; refine (know_any _ _ _ _ _ _ _).mono ?_; rintro e w4 ⟨rfl, HB⟩; have HZ2 : Hid (Below w0.heap.size w0 w4 ∧ Cell4 w4 w0.heap.size (.int .i64 0) (.int .i64 0) (.int .i64 0) (.int .i64 0)) := ⟨(HS.out.alloc HS.out.size (.cells #[.int .i64 0, .int .i64 0, .int .i64 0, .int .i64 0] 97)).trans (HB.mono (Nat.le_trans HS.out.size (le_alloc _ _))), (Cell4.new w0.drew (.int .i64 0) (.int .i64 0) (.int .i64 0) (.int .i64 0) 97).below HB⟩; obtain ⟨z0, z1, z2, z3, z4⟩ := HZ2.out.2; obtain ⟨⟨p0, p1, p2, p3, p4⟩, ⟨q0, q1, q2, q3, q4⟩, ⟨r0, r1, r2, r3, r4⟩, _⟩ := HX.out _ HZ2.out.1; clear HB)
    | (go_at_call 74; refine (know_any _ _ _ _ _ _ _).mono ?_; rintro e w4 ⟨rfl, HB⟩; have HS2 : Hid (Below w0.heap.size w0 w4) := HS.out.trans (HB.mono HS.out.size); obtain ⟨⟨p0, p1, p2, p3, p4⟩, ⟨q0, q1, q2, q3, q4⟩, ⟨r0, r1, r2, r3, r4⟩, _⟩ := HX.out _ HS2.out; have n4 : w4.heap.size ≠ w.heap.size := Nat.ne_of_gt (World.block_lt_of_cell? _ _ p0); have m4 : w4.heap.size ≠ w.heap.size + 1 := Nat.ne_of_gt (World.block_lt_of_cell? _ _ q0); clear HB))
  all_goals first
    | (have := HS3
       obtain ⟨w6, hw6⟩ : ∃ w6, w6 = w5.alloc (.cells #[.int .i64 (knK ka), .int .i64 (knN ka na), .int .i64 (knK kb), .int .i64 (knN kb nb)] 97) := ⟨_, rfl⟩
       obtain ⟨z, hz⟩ : ∃ z, z = w5.heap.size := ⟨_, rfl⟩
       have HY : Hid (Sit w w6 z (.int .i64 ka) (.int .i64 na) (.string sa) (.slice aa la ca) (.int .i64 kb) (.int .i64 nb) (.string sb) (.slice ab lb cb) (.int .i64 (knK ka)) (.int .i64 (knN ka na)) (.int .i64 (knK kb)) (.int .i64 (knN kb nb))) := by
         obtain ⟨h1, h2, h3, h4⟩ := HX.out _ HS3.out
         rw [hw6, hz]; exact ⟨h1.alloc _, h2.alloc _, h3.alloc _, Cell4.new w5 _ _ _ _ 97, h4.alloc h4.size _⟩
       rw [← hw6, ← hz]
       clear hw6 hz HS3 HS2 n5 m5 n4 m4)
    | (have := HZ4
       obtain ⟨w6, hw6⟩ : ∃ w6, w6 = (((w5.setCell ⟨w4.heap.size, 0, none⟩ (.int .i64 (knK ka))).setCell ⟨w4.heap.size, 0 + 1, none⟩ (.int .i64 (knN ka na))).setCell ⟨w4.heap.size, 0 + 2, none⟩ (.int .i64 (knK kb))).setCell ⟨w4.heap.size, 0 + 3, none⟩ (.int .i64 (knN kb nb)) := ⟨_, rfl⟩
       obtain ⟨z, hz⟩ : ∃ z, z = w4.heap.size := ⟨_, rfl⟩
       have HY : Hid (Sit w w6 z (.int .i64 ka) (.int .i64 na) (.string sa) (.slice aa la ca) (.int .i64 kb) (.int .i64 nb) (.string sb) (.slice ab lb cb) (.int .i64 (knK ka)) (.int .i64 (knN ka na)) (.int .i64 (knK kb)) (.int .i64 (knN kb nb))) := by
         obtain ⟨h1, h2, h3, h4⟩ := HX.out _ HZ4.out.1
         have hge := HS2.out.size
         have hgn := HXn.out
         rw [hw6, hz]; exact ⟨h1.four (by omega), h2.four (by omega), h3.four (by omega), HZ4.out.2.put, below_four h4 (by omega)⟩
       simp only [Nat.zero_add] at hw6
       rw [← hw6, ← hz]
       clear hw6 hz HZ4 HS2 n4 m4)
    | (have := HZ3
       obtain ⟨w6, hw6⟩ : ∃ w6, w6 = (((w5.setCell ⟨w0.heap.size, 0, none⟩ (.int .i64 (knK ka))).setCell ⟨w0.heap.size, 0 + 1, none⟩ (.int .i64 (knN ka na))).setCell ⟨w0.heap.size, 0 + 2, none⟩ (.int .i64 (knK kb))).setCell ⟨w0.heap.size, 0 + 3, none⟩ (.int .i64 (knN kb nb)) := ⟨_, rfl⟩
       obtain ⟨z, hz⟩ : ∃ z, z = w0.heap.size := ⟨_, rfl⟩
       have HY : Hid (Sit w w6 z (.int .i64 ka) (.int .i64 na) (.string sa) (.slice aa la ca) (.int .i64 kb) (.int .i64 nb) (.string sb) (.slice ab lb cb) (.int .i64 (knK ka)) (.int .i64 (knN ka na)) (.int .i64 (knK kb)) (.int .i64 (knN kb nb))) := by
         obtain ⟨h1, h2, h3, h4⟩ := HX.out _ HZ3.out.1
         have hgn := HXn.out
         rw [hw6, hz]; exact ⟨h1.four (by omega), h2.four (by omega), h3.four (by omega), HZ3.out.2.put, below_four h4 (by omega)⟩
       simp only [Nat.zero_add] at hw6
       rw [← hw6, ← hz]
       clear hw6 hz HZ3 HZ2)
  all_goals (
    generalize knK ka = xa at *
    generalize knN ka na = ya at *
    generalize knK kb = xb at *
    generalize knN kb nb = yb at *
    obtain ⟨p0, p1, p2, p3, p4⟩ := HY.out.a
    obtain ⟨q0, q1, q2, q3, q4⟩ := HY.out.b
    obtain ⟨r0, r1, r2, r3, r4⟩ := HY.out.r
    obtain ⟨z0, z1, z2, z3, z4⟩ := HY.out.z
    have hlz := World.block_lt_of_cell? _ _ z0
    have hlp := World.block_lt_of_cell? _ _ p0
    have hlq := World.block_lt_of_cell? _ _ q0
    have hlr := World.block_lt_of_cell? _ _ r0
    rcases hkb with hkb | ⟨hkb, hkc⟩
    all_goals (
      go_wp2_with (first
        | (go_at_call 77; have := HY7; refine (HC.out _).mono ?_; rintro e w8 ⟨rfl, HB⟩; have HY8 : Hid (Sit w w8 z (.int .i64 ka) (.int .i64 na) (.string sa) (.slice aa la ca) (.int .i64 kb) (.int .i64 nb) (.string sb) (.slice ab lb cb) (.int .i64 xa) (.int .i64 ya) (.int .i64 xb) (.int .i64 yb)) := HY7.out.below HB; obtain ⟨p0, p1, p2, p3, p4⟩ := HY8.out.a; obtain ⟨q0, q1, q2, q3, q4⟩ := HY8.out.b; obtain ⟨r0, r1, r2, r3, r4⟩ := HY8.out.r; obtain ⟨z0, z1, z2, z3, z4⟩ := HY8.out.z; have hlz := World.block_lt_of_cell? _ _ z0; have hlp := World.block_lt_of_cell? _ _ p0; have hlq := World.block_lt_of_cell? _ _ q0; have hlr := World.block_lt_of_cell? _ _ r0; clear HB HY7)
        | (go_at_call 75; have := HY; refine (HT.out _).mono ?_; rintro e w7 ⟨rfl, HB⟩; have HY7 : Hid (Sit w w7 z (.int .i64 ka) (.int .i64 na) (.string sa) (.slice aa la ca) (.int .i64 kb) (.int .i64 nb) (.string sb) (.slice ab lb cb) (.int .i64 xa) (.int .i64 ya) (.int .i64 xb) (.int .i64 yb)) := HY.out.below HB; obtain ⟨p0, p1, p2, p3, p4⟩ := HY7.out.a; obtain ⟨q0, q1, q2, q3, q4⟩ := HY7.out.b; obtain ⟨r0, r1, r2, r3, r4⟩ := HY7.out.r; obtain ⟨z0, z1, z2, z3, z4⟩ := HY7.out.z; have hlz := World.block_lt_of_cell? _ _ z0; have hlp := World.block_lt_of_cell? _ _ p0; have hlq := World.block_lt_of_cell? _ _ q0; have hlr := World.block_lt_of_cell? _ _ r0; clear HB HY))
      refine bodyPost_ret (v := .agg #[.int .i64 kb, .int .i64 nb, .string sb, .slice ab lb cb]) (by simp [results, Try.results50, go_sem, r0, r1, r2, r3]) rfl ⟨_, _, _, _, _, _, rfl, ?_⟩
      have hf := below_four HY8.out.bel (M := w.heap.size + 1 + 1) (o := 0) (u0 := .int .i64 kb) (u1 := .int .i64 nb) (u2 := .string sb) (u3 := .slice ab lb cb) (by omega)
      exact ⟨HTb.out.below hf, hf⟩))
set_option maxRecDepth 100000 in
set_option maxHeartbeats 1000000 in
theorem two_and (base : Nat) (k : Int) (HKi : Hid (InR k)) (ta tb : Tr) (ka na kb nb : Int) (sa sb : ByteArray) (aa ab : Option Addr) (la ca lb cb : Nat) (w : World) (HTa : Hid (Tre w (fun g => base ≤ g) (.agg #[.int .i64 ka, .int .i64 na, .string sa, .slice aa la ca]) ta)) (HTb : Hid (Tre w (fun g => base ≤ g) (.agg #[.int .i64 kb, .int .i64 nb, .string sb, .slice ab lb cb]) tb)) (hbase : base ≤ w.heap.size) (hk : k = 13 ∨ k = 14) (hx : ¬ ((knK ka) = 3 ∨ (knK ka) = 4)) :
    Calls Try.prog 50 #[.int .i64 k, .agg #[.int .i64 ka, .int .i64 na, .string sa, .slice aa la ca], .agg #[.int .i64 kb, .int .i64 nb, .string sb, .slice ab lb cb]] w (FPost base w ⟨k, 0, [], [ta, tb]⟩) := by
  have HT : Hid (∀ w, Calls Try.prog 75 #[.agg #[.int .i64 (knK ka), .int .i64 (knN ka na)]] w fun e w' => e = .returned (.bool false) ∧ Below w.heap.size w w') := fun w => by have := isTruth_any (knK ka) (knN ka na) w; rw [decide_eq_false hx] at this; exact this
  have hkb : (k == 13) = true ∨ (k == 13) = false ∧ (k == 14) = true := by simp; omega
  clear hk hx
  obtain ⟨w0, hw0⟩ : ∃ w0, w0 = ((w.alloc (.cells #[.int .i64 ka, .int .i64 na, .string sa, .slice aa la ca] 24)).alloc (.cells #[.int .i64 kb, .int .i64 nb, .string sb, .slice ab lb cb] 24)).alloc (.cells #[.int .i64 0, .int .i64 0, .string ⟨#[]⟩, .slice none 0 0] 24) := ⟨_, rfl⟩
  have HX : Hid (∀ w', Below w0.heap.size w0 w' → Cell4 w' w.heap.size (.int .i64 ka) (.int .i64 na) (.string sa) (.slice aa la ca) ∧ Cell4 w' (w.heap.size + 1) (.int .i64 kb) (.int .i64 nb) (.string sb) (.slice ab lb cb) ∧ Cell4 w' (w.heap.size + 1 + 1) (.int .i64 0) (.int .i64 0) (.string ⟨#[]⟩) (.slice none 0 0) ∧ Below w.heap.size w w') := fun w' h => by rw [hw0] at h; exact three_new w _ _ _ _ _ _ _ _ h
  have HXn : Hid (w0.heap.size = w.heap.size + 3) := by unfold Hid; rw [hw0, size_alloc, size_alloc, size_alloc]
  go_enter Try.func50, Try.ntmps50
  go_wp2_with fail
  rw [← hw0]
  clear hw0
  obtain ⟨⟨p0, p1, p2, p3, p4⟩, ⟨q0, q1, q2, q3, q4⟩, ⟨r0, r1, r2, r3, r4⟩, _⟩ := HX.out _ (Below.refl _ _)
  have n0 : w0.heap.size ≠ w.heap.size := Nat.ne_of_gt (World.block_lt_of_cell? _ _ p0)
  have m0 : w0.heap.size ≠ w.heap.size + 1 := Nat.ne_of_gt (World.block_lt_of_cell? _ _ q0)
  have HS : Hid (Below w0.heap.size w0 w0.drew) := Below.drew (Below.refl _ _)
  go_region_held3 (fun w' => w'.cell? ⟨w.heap.size, 0, none⟩ = some (.int .i64 ka) ∧ w'.cell? ⟨w.heap.size, 1, none⟩ = some (.int .i64 na) ∧ w'.cell? ⟨w.heap.size, 2, none⟩ = some (.string sa) ∧ w'.cell? ⟨w.heap.size, 3, none⟩ = some (.slice aa la ca) ∧ w'.cell? ⟨w.heap.size + 1, 0, none⟩ = some (.int .i64 kb) ∧ w'.cell? ⟨w.heap.size + 1, 1, none⟩ = some (.int .i64 nb) ∧ w'.cell? ⟨w.heap.size + 1, 2, none⟩ = some (.string sb) ∧ w'.cell? ⟨w.heap.size + 1, 3, none⟩ = some (.slice ab lb cb)) (go_keep) (first
    | (go_at_call 74; have := HZ2; refine (know_any _ _ _ _ _ _ _).mono ?_; rintro e w5 ⟨rfl, HB⟩; have HZ3 : Hid (Below w0.heap.size w0 w5 ∧ Cell4 w5 w0.heap.size (.int .i64 0) (.int .i64 0) (.int .i64 0) (.int .i64 0)) := ⟨HZ2.out.1.trans (HB.mono HZ2.out.1.size), HZ2.out.2.below HB⟩; obtain ⟨z0, z1, z2, z3, z4⟩ := HZ3.out.2; obtain ⟨⟨p0, p1, p2, p3, p4⟩, ⟨q0, q1, q2, q3, q4⟩, ⟨r0, r1, r2, r3, r4⟩, _⟩ := HX.out _ HZ3.out.1; clear HB)
    | (go_at_call 74; have := HS2; refine (know_any _ _ _ _ _ _ _).mono ?_; rintro e w5 ⟨rfl, HB⟩; have HZ4 : Hid (Below w0.heap.size w0 w5 ∧ Cell4 w5 w4.heap.size (.int .i64 0) (.int .i64 0) (.int .i64 0) (.int .i64 0)) := ⟨(HS2.out.alloc HS2.out.size (.cells #[.int .i64 0, .int .i64 0, .int .i64 0, .int .i64 0] 97)).trans (HB.mono (Nat.le_trans HS2.out.size (le_alloc _ _))), (Cell4.new w4 (.int .i64 0) (.int .i64 0) (.int .i64 0) (.int .i64 0) 97).below HB⟩; obtain ⟨z0, z1, z2, z3, z4⟩ := HZ4.out.2; obtain ⟨⟨p0, p1, p2, p3, p4⟩, ⟨q0, q1, q2, q3, q4⟩, ⟨r0, r1, r2, r3, r4⟩, _⟩ := HX.out _ HZ4.out.1; clear HB)
    | (go_at_call 74; have := HS2; refine (know_any _ _ _ _ _ _ _).mono ?_; rintro e w5 ⟨rfl, HB⟩; have HS3 : Hid (Below w0.heap.size w0 w5) := HS2.out.trans (HB.mono HS2.out.size); obtain ⟨⟨p0, p1, p2, p3, p4⟩, ⟨q0, q1, q2, q3, q4⟩, ⟨r0, r1, r2, r3, r4⟩, _⟩ := HX.out _ HS3.out; have n5 : w5.heap.size ≠ w.heap.size := Nat.ne_of_gt (World.block_lt_of_cell? _ _ p0); have m5 : w5.heap.size ≠ w.heap.size + 1 := Nat.ne_of_gt (World.block_lt_of_cell? _ _ q0); clear HB)
    | (go_at_call 74; refine (know_any _ _ _ _ _ _ _).mono ?_; rintro e w4 ⟨rfl, HB⟩; have HZ2 : Hid (Below w0.heap.size w0 w4 ∧ Cell4 w4 w0.heap.size (.int .i64 0) (.int .i64 0) (.int .i64 0) (.int .i64 0)) := ⟨(HS.out.alloc HS.out.size (.cells #[.int .i64 0, .int .i64 0, .int .i64 0, .int .i64 0] 97)).trans (HB.mono (Nat.le_trans HS.out.size (le_alloc _ _))), (Cell4.new w0.drew (.int .i64 0) (.int .i64 0) (.int .i64 0) (.int .i64 0) 97).below HB⟩; obtain ⟨z0, z1, z2, z3, z4⟩ := HZ2.out.2; obtain ⟨⟨p0, p1, p2, p3, p4⟩, ⟨q0, q1, q2, q3, q4⟩, ⟨r0, r1, r2, r3, r4⟩, _⟩ := HX.out _ HZ2.out.1; clear HB)
    | (go_at_call 74; refine (know_any _ _ _ _ _ _ _).mono ?_; rintro e w4 ⟨rfl, HB⟩; have HS2 : Hid (Below w0.heap.size w0 w4) := HS.out.trans (HB.mono HS.out.size); obtain ⟨⟨p0, p1, p2, p3, p4⟩, ⟨q0, q1, q2, q3, q4⟩, ⟨r0, r1, r2, r3, r4⟩, _⟩ := HX.out _ HS2.out; have n4 : w4.heap.size ≠ w.heap.size := Nat.ne_of_gt (World.block_lt_of_cell? _ _ p0); have m4 : w4.heap.size ≠ w.heap.size + 1 := Nat.ne_of_gt (World.block_lt_of_cell? _ _ q0); clear HB))
  all_goals first
    | (have := HS3
       obtain ⟨w6, hw6⟩ : ∃ w6, w6 = w5.alloc (.cells #[.int .i64 (knK ka), .int .i64 (knN ka na), .int .i64 (knK kb), .int .i64 (knN kb nb)] 97) := ⟨_, rfl⟩
       obtain ⟨z, hz⟩ : ∃ z, z = w5.heap.size := ⟨_, rfl⟩
       have HY : Hid (Sit w w6 z (.int .i64 ka) (.int .i64 na) (.string sa) (.slice aa la ca) (.int .i64 kb) (.int .i64 nb) (.string sb) (.slice ab lb cb) (.int .i64 (knK ka)) (.int .i64 (knN ka na)) (.int .i64 (knK kb)) (.int .i64 (knN kb nb))) := by
         obtain ⟨h1, h2, h3, h4⟩ := HX.out _ HS3.out
         rw [hw6, hz]; exact ⟨h1.alloc _, h2.alloc _, h3.alloc _, Cell4.new w5 _ _ _ _ 97, h4.alloc h4.size _⟩
       rw [← hw6, ← hz]
       clear hw6 hz HS3 HS2 n5 m5 n4 m4)
    | (have := HZ4
       obtain ⟨w6, hw6⟩ : ∃ w6, w6 = (((w5.setCell ⟨w4.heap.size, 0, none⟩ (.int .i64 (knK ka))).setCell ⟨w4.heap.size, 0 + 1, none⟩ (.int .i64 (knN ka na))).setCell ⟨w4.heap.size, 0 + 2, none⟩ (.int .i64 (knK kb))).setCell ⟨w4.heap.size, 0 + 3, none⟩ (.int .i64 (knN kb nb)) := ⟨_, rfl⟩
       obtain ⟨z, hz⟩ : ∃ z, z = w4.heap.size := ⟨_, rfl⟩
       have HY : Hid (Sit w w6 z (.int .i64 ka) (.int .i64 na) (.string sa) (.slice aa la ca) (.int .i64 kb) (.int .i64 nb) (.string sb) (.slice ab lb cb) (.int .i64 (knK ka)) (.int .i64 (knN ka na)) (.int .i64 (knK kb)) (.int .i64 (knN kb nb))) := by
         obtain ⟨h1, h2, h3, h4⟩ := HX.out _ HZ4.out.1
         have hge := HS2.out.size
         have hgn := HXn.out
         rw [hw6, hz]; exact ⟨h1.four (by omega), h2.four (by omega), h3.four (by omega), HZ4.out.2.put, below_four h4 (by omega)⟩
       simp only [Nat.zero_add] at hw6
       rw [← hw6, ← hz]
       clear hw6 hz HZ4 HS2 n4 m4)
    | (have := HZ3
       obtain ⟨w6, hw6⟩ : ∃ w6, w6 = (((w5.setCell ⟨w0.heap.size, 0, none⟩ (.int .i64 (knK ka))).setCell ⟨w0.heap.size, 0 + 1, none⟩ (.int .i64 (knN ka na))).setCell ⟨w0.heap.size, 0 + 2, none⟩ (.int .i64 (knK kb))).setCell ⟨w0.heap.size, 0 + 3, none⟩ (.int .i64 (knN kb nb)) := ⟨_, rfl⟩
       obtain ⟨z, hz⟩ : ∃ z, z = w0.heap.size := ⟨_, rfl⟩
       have HY : Hid (Sit w w6 z (.int .i64 ka) (.int .i64 na) (.string sa) (.slice aa la ca) (.int .i64 kb) (.int .i64 nb) (.string sb) (.slice ab lb cb) (.int .i64 (knK ka)) (.int .i64 (knN ka na)) (.int .i64 (knK kb)) (.int .i64 (knN kb nb))) := by
         obtain ⟨h1, h2, h3, h4⟩ := HX.out _ HZ3.out.1
         have hgn := HXn.out
         rw [hw6, hz]; exact ⟨h1.four (by omega), h2.four (by omega), h3.four (by omega), HZ3.out.2.put, below_four h4 (by omega)⟩
       simp only [Nat.zero_add] at hw6
       rw [← hw6, ← hz]
       clear hw6 hz HZ3 HZ2)
  all_goals (
    generalize knK ka = xa at *
    generalize knN ka na = ya at *
    generalize knK kb = xb at *
    generalize knN kb nb = yb at *
    obtain ⟨p0, p1, p2, p3, p4⟩ := HY.out.a
    obtain ⟨q0, q1, q2, q3, q4⟩ := HY.out.b
    obtain ⟨r0, r1, r2, r3, r4⟩ := HY.out.r
    obtain ⟨z0, z1, z2, z3, z4⟩ := HY.out.z
    have hlz := World.block_lt_of_cell? _ _ z0
    have hlp := World.block_lt_of_cell? _ _ p0
    have hlq := World.block_lt_of_cell? _ _ q0
    have hlr := World.block_lt_of_cell? _ _ r0
    rcases hkb with hkb | ⟨hkb, hkc⟩
    all_goals (
      go_wp2_with (go_at_call 75; have := HY; refine (HT.out _).mono ?_; rintro e w7 ⟨rfl, HB⟩; have HY7 : Hid (Sit w w7 z (.int .i64 ka) (.int .i64 na) (.string sa) (.slice aa la ca) (.int .i64 kb) (.int .i64 nb) (.string sb) (.slice ab lb cb) (.int .i64 xa) (.int .i64 ya) (.int .i64 xb) (.int .i64 yb)) := HY.out.below HB; obtain ⟨p0, p1, p2, p3, p4⟩ := HY7.out.a; obtain ⟨q0, q1, q2, q3, q4⟩ := HY7.out.b; obtain ⟨r0, r1, r2, r3, r4⟩ := HY7.out.r; obtain ⟨z0, z1, z2, z3, z4⟩ := HY7.out.z; have hlz := World.block_lt_of_cell? _ _ z0; have hlp := World.block_lt_of_cell? _ _ p0; have hlq := World.block_lt_of_cell? _ _ q0; have hlr := World.block_lt_of_cell? _ _ r0; clear HB HY)
      refine bodyPost_ret (v := .agg #[.int .i64 k, .int .i64 0, .string ⟨#[]⟩, .slice (some ⟨w7.heap.size, 0, none⟩) 2 2]) (by simp [results, Try.results50, go_sem, r0, r1, r2, r3, hlr]) rfl ⟨_, _, _, _, _, _, rfl, ?_⟩
      exact node2_out (below_four HY7.out.bel (M := w.heap.size + 1 + 1) (o := 0) (by omega)) hbase HTa.out HTb.out HKi.out four_size.symm))
set_option maxRecDepth 100000 in
set_option maxHeartbeats 1000000 in
theorem two_holds (base : Nat) (k : Int) (HKi : Hid (InR k)) (ta tb : Tr) (ka na kb nb : Int) (sa sb : ByteArray) (aa ab : Option Addr) (la ca lb cb : Nat) (w : World) (HTa : Hid (Tre w (fun g => base ≤ g) (.agg #[.int .i64 ka, .int .i64 na, .string sa, .slice aa la ca]) ta)) (HTb : Hid (Tre w (fun g => base ≤ g) (.agg #[.int .i64 kb, .int .i64 nb, .string sb, .slice ab lb cb]) tb)) (hbase : base ≤ w.heap.size) (hk : k = 11 ∨ k = 12) (hx : (knK ka) ≠ 0 ∧ (knK kb) ≠ 0) (bb : Bool) (hbb : (if k = 11 then decide ((knK ka) = (knK kb) ∧ (knN ka na) = (knN kb nb)) else decide ((knN ka na) < (knN kb nb))) = bb) :
    Calls Try.prog 50 #[.int .i64 k, .agg #[.int .i64 ka, .int .i64 na, .string sa, .slice aa la ca], .agg #[.int .i64 kb, .int .i64 nb, .string sb, .slice ab lb cb]] w (FPost base w (ansT bb)) := by
  have HT : Hid (∀ w, Calls Try.prog 78 #[.agg #[.int .i64 (knK ka), .int .i64 (knN ka na), .int .i64 (knK kb), .int .i64 (knN kb nb)]] w fun e w' => e = .returned (.bool true) ∧ Below w.heap.size w w') := fun w => by have := both_any (knK ka) (knN ka na) (knK kb) (knN kb nb) w; rw [decide_eq_true hx] at this; exact this
  have HH : Hid (∀ w, Calls Try.prog 79 #[.int .i64 k, .agg #[.int .i64 (knK ka), .int .i64 (knN ka na), .int .i64 (knK kb), .int .i64 (knN kb nb)]] w fun e w' => e = .returned (.bool bb) ∧ Below w.heap.size w w') := fun w => by have := holds_any k (knK ka) (knN ka na) (knK kb) (knN kb nb) w; rw [hbb] at this; exact this
  have HAn : Hid (∀ w, Calls Try.prog 76 #[.bool bb] w fun e w' => e = .returned (.agg #[.int .i64 (if bb = true then 3 else 4), .int .i64 0, .string ⟨#[]⟩, .slice none 0 0]) ∧ Below w.heap.size w w') := answer_any bb
  have HTr : Hid (∀ w P, Tre w P (.agg #[.int .i64 (if bb = true then 3 else 4), .int .i64 0, .string ⟨#[]⟩, .slice none 0 0]) (ansT bb)) := fun w P => ans_tre w P bb
  generalize (if bb = true then (3 : Int) else 4) = ak at *
  have hk3 : (k == 13) = false := by simp; omega
  have hk4 : (k == 14) = false := by simp; omega
  have hkb : (k == 11) = true ∨ (k == 11) = false ∧ (k == 12) = true := by simp; omega
  clear hk hx hbb
  obtain ⟨w0, hw0⟩ : ∃ w0, w0 = ((w.alloc (.cells #[.int .i64 ka, .int .i64 na, .string sa, .slice aa la ca] 24)).alloc (.cells #[.int .i64 kb, .int .i64 nb, .string sb, .slice ab lb cb] 24)).alloc (.cells #[.int .i64 0, .int .i64 0, .string ⟨#[]⟩, .slice none 0 0] 24) := ⟨_, rfl⟩
  have HX : Hid (∀ w', Below w0.heap.size w0 w' → Cell4 w' w.heap.size (.int .i64 ka) (.int .i64 na) (.string sa) (.slice aa la ca) ∧ Cell4 w' (w.heap.size + 1) (.int .i64 kb) (.int .i64 nb) (.string sb) (.slice ab lb cb) ∧ Cell4 w' (w.heap.size + 1 + 1) (.int .i64 0) (.int .i64 0) (.string ⟨#[]⟩) (.slice none 0 0) ∧ Below w.heap.size w w') := fun w' h => by rw [hw0] at h; exact three_new w _ _ _ _ _ _ _ _ h
  have HXn : Hid (w0.heap.size = w.heap.size + 3) := by unfold Hid; rw [hw0, size_alloc, size_alloc, size_alloc]
  go_enter Try.func50, Try.ntmps50
  go_wp2_with fail
  rw [← hw0]
  clear hw0
  obtain ⟨⟨p0, p1, p2, p3, p4⟩, ⟨q0, q1, q2, q3, q4⟩, ⟨r0, r1, r2, r3, r4⟩, _⟩ := HX.out _ (Below.refl _ _)
  have n0 : w0.heap.size ≠ w.heap.size := Nat.ne_of_gt (World.block_lt_of_cell? _ _ p0)
  have m0 : w0.heap.size ≠ w.heap.size + 1 := Nat.ne_of_gt (World.block_lt_of_cell? _ _ q0)
  have HS : Hid (Below w0.heap.size w0 w0.drew) := Below.drew (Below.refl _ _)
  go_region_held3 (fun w' => w'.cell? ⟨w.heap.size, 0, none⟩ = some (.int .i64 ka) ∧ w'.cell? ⟨w.heap.size, 1, none⟩ = some (.int .i64 na) ∧ w'.cell? ⟨w.heap.size, 2, none⟩ = some (.string sa) ∧ w'.cell? ⟨w.heap.size, 3, none⟩ = some (.slice aa la ca) ∧ w'.cell? ⟨w.heap.size + 1, 0, none⟩ = some (.int .i64 kb) ∧ w'.cell? ⟨w.heap.size + 1, 1, none⟩ = some (.int .i64 nb) ∧ w'.cell? ⟨w.heap.size + 1, 2, none⟩ = some (.string sb) ∧ w'.cell? ⟨w.heap.size + 1, 3, none⟩ = some (.slice ab lb cb)) (go_keep) (first
    | (go_at_call 74; have := HZ2; refine (know_any _ _ _ _ _ _ _).mono ?_; rintro e w5 ⟨rfl, HB⟩; have HZ3 : Hid (Below w0.heap.size w0 w5 ∧ Cell4 w5 w0.heap.size (.int .i64 0) (.int .i64 0) (.int .i64 0) (.int .i64 0)) := ⟨HZ2.out.1.trans (HB.mono HZ2.out.1.size), HZ2.out.2.below HB⟩; obtain ⟨z0, z1, z2, z3, z4⟩ := HZ3.out.2; obtain ⟨⟨p0, p1, p2, p3, p4⟩, ⟨q0, q1, q2, q3, q4⟩, ⟨r0, r1, r2, r3, r4⟩, _⟩ := HX.out _ HZ3.out.1; clear HB)
    | (go_at_call 74; have := HS2; refine (know_any _ _ _ _ _ _ _).mono ?_; rintro e w5 ⟨rfl, HB⟩; have HZ4 : Hid (Below w0.heap.size w0 w5 ∧ Cell4 w5 w4.heap.size (.int .i64 0) (.int .i64 0) (.int .i64 0) (.int .i64 0)) := ⟨(HS2.out.alloc HS2.out.size (.cells #[.int .i64 0, .int .i64 0, .int .i64 0, .int .i64 0] 97)).trans (HB.mono (Nat.le_trans HS2.out.size (le_alloc _ _))), (Cell4.new w4 (.int .i64 0) (.int .i64 0) (.int .i64 0) (.int .i64 0) 97).below HB⟩; obtain ⟨z0, z1, z2, z3, z4⟩ := HZ4.out.2; obtain ⟨⟨p0, p1, p2, p3, p4⟩, ⟨q0, q1, q2, q3, q4⟩, ⟨r0, r1, r2, r3, r4⟩, _⟩ := HX.out _ HZ4.out.1; clear HB)
    | (go_at_call 74; have := HS2; refine (know_any _ _ _ _ _ _ _).mono ?_; rintro e w5 ⟨rfl, HB⟩; have HS3 : Hid (Below w0.heap.size w0 w5) := HS2.out.trans (HB.mono HS2.out.size); obtain ⟨⟨p0, p1, p2, p3, p4⟩, ⟨q0, q1, q2, q3, q4⟩, ⟨r0, r1, r2, r3, r4⟩, _⟩ := HX.out _ HS3.out; have n5 : w5.heap.size ≠ w.heap.size := Nat.ne_of_gt (World.block_lt_of_cell? _ _ p0); have m5 : w5.heap.size ≠ w.heap.size + 1 := Nat.ne_of_gt (World.block_lt_of_cell? _ _ q0); clear HB)
    | (go_at_call 74; refine (know_any _ _ _ _ _ _ _).mono ?_; rintro e w4 ⟨rfl, HB⟩; have HZ2 : Hid (Below w0.heap.size w0 w4 ∧ Cell4 w4 w0.heap.size (.int .i64 0) (.int .i64 0) (.int .i64 0) (.int .i64 0)) := ⟨(HS.out.alloc HS.out.size (.cells #[.int .i64 0, .int .i64 0, .int .i64 0, .int .i64 0] 97)).trans (HB.mono (Nat.le_trans HS.out.size (le_alloc _ _))), (Cell4.new w0.drew (.int .i64 0) (.int .i64 0) (.int .i64 0) (.int .i64 0) 97).below HB⟩; obtain ⟨z0, z1, z2, z3, z4⟩ := HZ2.out.2; obtain ⟨⟨p0, p1, p2, p3, p4⟩, ⟨q0, q1, q2, q3, q4⟩, ⟨r0, r1, r2, r3, r4⟩, _⟩ := HX.out _ HZ2.out.1; clear HB)
    | (go_at_call 74; refine (know_any _ _ _ _ _ _ _).mono ?_; rintro e w4 ⟨rfl, HB⟩; have HS2 : Hid (Below w0.heap.size w0 w4) := HS.out.trans (HB.mono HS.out.size); obtain ⟨⟨p0, p1, p2, p3, p4⟩, ⟨q0, q1, q2, q3, q4⟩, ⟨r0, r1, r2, r3, r4⟩, _⟩ := HX.out _ HS2.out; have n4 : w4.heap.size ≠ w.heap.size := Nat.ne_of_gt (World.block_lt_of_cell? _ _ p0); have m4 : w4.heap.size ≠ w.heap.size + 1 := Nat.ne_of_gt (World.block_lt_of_cell? _ _ q0); clear HB))
  all_goals first
    | (have := HS3
       obtain ⟨w6, hw6⟩ : ∃ w6, w6 = w5.alloc (.cells #[.int .i64 (knK ka), .int .i64 (knN ka na), .int .i64 (knK kb), .int .i64 (knN kb nb)] 97) := ⟨_, rfl⟩
       obtain ⟨z, hz⟩ : ∃ z, z = w5.heap.size := ⟨_, rfl⟩
       have HY : Hid (Sit w w6 z (.int .i64 ka) (.int .i64 na) (.string sa) (.slice aa la ca) (.int .i64 kb) (.int .i64 nb) (.string sb) (.slice ab lb cb) (.int .i64 (knK ka)) (.int .i64 (knN ka na)) (.int .i64 (knK kb)) (.int .i64 (knN kb nb))) := by
         obtain ⟨h1, h2, h3, h4⟩ := HX.out _ HS3.out
         rw [hw6, hz]; exact ⟨h1.alloc _, h2.alloc _, h3.alloc _, Cell4.new w5 _ _ _ _ 97, h4.alloc h4.size _⟩
       rw [← hw6, ← hz]
       clear hw6 hz HS3 HS2 n5 m5 n4 m4)
    | (have := HZ4
       obtain ⟨w6, hw6⟩ : ∃ w6, w6 = (((w5.setCell ⟨w4.heap.size, 0, none⟩ (.int .i64 (knK ka))).setCell ⟨w4.heap.size, 0 + 1, none⟩ (.int .i64 (knN ka na))).setCell ⟨w4.heap.size, 0 + 2, none⟩ (.int .i64 (knK kb))).setCell ⟨w4.heap.size, 0 + 3, none⟩ (.int .i64 (knN kb nb)) := ⟨_, rfl⟩
       obtain ⟨z, hz⟩ : ∃ z, z = w4.heap.size := ⟨_, rfl⟩
       have HY : Hid (Sit w w6 z (.int .i64 ka) (.int .i64 na) (.string sa) (.slice aa la ca) (.int .i64 kb) (.int .i64 nb) (.string sb) (.slice ab lb cb) (.int .i64 (knK ka)) (.int .i64 (knN ka na)) (.int .i64 (knK kb)) (.int .i64 (knN kb nb))) := by
         obtain ⟨h1, h2, h3, h4⟩ := HX.out _ HZ4.out.1
         have hge := HS2.out.size
         have hgn := HXn.out
         rw [hw6, hz]; exact ⟨h1.four (by omega), h2.four (by omega), h3.four (by omega), HZ4.out.2.put, below_four h4 (by omega)⟩
       simp only [Nat.zero_add] at hw6
       rw [← hw6, ← hz]
       clear hw6 hz HZ4 HS2 n4 m4)
    | (have := HZ3
       obtain ⟨w6, hw6⟩ : ∃ w6, w6 = (((w5.setCell ⟨w0.heap.size, 0, none⟩ (.int .i64 (knK ka))).setCell ⟨w0.heap.size, 0 + 1, none⟩ (.int .i64 (knN ka na))).setCell ⟨w0.heap.size, 0 + 2, none⟩ (.int .i64 (knK kb))).setCell ⟨w0.heap.size, 0 + 3, none⟩ (.int .i64 (knN kb nb)) := ⟨_, rfl⟩
       obtain ⟨z, hz⟩ : ∃ z, z = w0.heap.size := ⟨_, rfl⟩
       have HY : Hid (Sit w w6 z (.int .i64 ka) (.int .i64 na) (.string sa) (.slice aa la ca) (.int .i64 kb) (.int .i64 nb) (.string sb) (.slice ab lb cb) (.int .i64 (knK ka)) (.int .i64 (knN ka na)) (.int .i64 (knK kb)) (.int .i64 (knN kb nb))) := by
         obtain ⟨h1, h2, h3, h4⟩ := HX.out _ HZ3.out.1
         have hgn := HXn.out
         rw [hw6, hz]; exact ⟨h1.four (by omega), h2.four (by omega), h3.four (by omega), HZ3.out.2.put, below_four h4 (by omega)⟩
       simp only [Nat.zero_add] at hw6
       rw [← hw6, ← hz]
       clear hw6 hz HZ3 HZ2)
  all_goals (
    generalize knK ka = xa at *
    generalize knN ka na = ya at *
    generalize knK kb = xb at *
    generalize knN kb nb = yb at *
    obtain ⟨p0, p1, p2, p3, p4⟩ := HY.out.a
    obtain ⟨q0, q1, q2, q3, q4⟩ := HY.out.b
    obtain ⟨r0, r1, r2, r3, r4⟩ := HY.out.r
    obtain ⟨z0, z1, z2, z3, z4⟩ := HY.out.z
    have hlz := World.block_lt_of_cell? _ _ z0
    have hlp := World.block_lt_of_cell? _ _ p0
    have hlq := World.block_lt_of_cell? _ _ q0
    have hlr := World.block_lt_of_cell? _ _ r0
    rcases hkb with hkb | ⟨hkb, hkc⟩
    all_goals (
      go_wp2_with (first
        | (go_at_call 76; have := HY8; refine (HAn.out _).mono ?_; rintro e w9 ⟨rfl, HB⟩; have HY9 : Hid (Sit w w9 z (.int .i64 ka) (.int .i64 na) (.string sa) (.slice aa la ca) (.int .i64 kb) (.int .i64 nb) (.string sb) (.slice ab lb cb) (.int .i64 xa) (.int .i64 ya) (.int .i64 xb) (.int .i64 yb)) := HY8.out.below HB; obtain ⟨p0, p1, p2, p3, p4⟩ := HY9.out.a; obtain ⟨q0, q1, q2, q3, q4⟩ := HY9.out.b; obtain ⟨r0, r1, r2, r3, r4⟩ := HY9.out.r; obtain ⟨z0, z1, z2, z3, z4⟩ := HY9.out.z; have hlz := World.block_lt_of_cell? _ _ z0; have hlp := World.block_lt_of_cell? _ _ p0; have hlq := World.block_lt_of_cell? _ _ q0; have hlr := World.block_lt_of_cell? _ _ r0; clear HB HY8)
        | (go_at_call 79; have := HY7; refine (HH.out _).mono ?_; rintro e w8 ⟨rfl, HB⟩; have HY8 : Hid (Sit w w8 z (.int .i64 ka) (.int .i64 na) (.string sa) (.slice aa la ca) (.int .i64 kb) (.int .i64 nb) (.string sb) (.slice ab lb cb) (.int .i64 xa) (.int .i64 ya) (.int .i64 xb) (.int .i64 yb)) := HY7.out.below HB; obtain ⟨p0, p1, p2, p3, p4⟩ := HY8.out.a; obtain ⟨q0, q1, q2, q3, q4⟩ := HY8.out.b; obtain ⟨r0, r1, r2, r3, r4⟩ := HY8.out.r; obtain ⟨z0, z1, z2, z3, z4⟩ := HY8.out.z; have hlz := World.block_lt_of_cell? _ _ z0; have hlp := World.block_lt_of_cell? _ _ p0; have hlq := World.block_lt_of_cell? _ _ q0; have hlr := World.block_lt_of_cell? _ _ r0; clear HB HY7)
        | (go_at_call 78; have := HY; refine (HT.out _).mono ?_; rintro e w7 ⟨rfl, HB⟩; have HY7 : Hid (Sit w w7 z (.int .i64 ka) (.int .i64 na) (.string sa) (.slice aa la ca) (.int .i64 kb) (.int .i64 nb) (.string sb) (.slice ab lb cb) (.int .i64 xa) (.int .i64 ya) (.int .i64 xb) (.int .i64 yb)) := HY.out.below HB; obtain ⟨p0, p1, p2, p3, p4⟩ := HY7.out.a; obtain ⟨q0, q1, q2, q3, q4⟩ := HY7.out.b; obtain ⟨r0, r1, r2, r3, r4⟩ := HY7.out.r; obtain ⟨z0, z1, z2, z3, z4⟩ := HY7.out.z; have hlz := World.block_lt_of_cell? _ _ z0; have hlp := World.block_lt_of_cell? _ _ p0; have hlq := World.block_lt_of_cell? _ _ q0; have hlr := World.block_lt_of_cell? _ _ r0; clear HB HY))
      refine bodyPost_ret (v := .agg #[.int .i64 ak, .int .i64 0, .string ⟨#[]⟩, .slice none 0 0]) (by simp [results, Try.results50, go_sem, r0, r1, r2, r3]) rfl ⟨_, _, _, _, _, _, rfl, ?_⟩
      have hf := below_four HY9.out.bel (M := w.heap.size + 1 + 1) (o := 0) (u0 := .int .i64 ak) (u1 := .int .i64 0) (u2 := .string ⟨#[]⟩) (u3 := .slice none 0 0) (by omega)
      exact ⟨HTr.out _ _, hf⟩))
set_option maxRecDepth 100000 in
set_option maxHeartbeats 1000000 in
theorem two_cmp (base : Nat) (k : Int) (HKi : Hid (InR k)) (ta tb : Tr) (ka na kb nb : Int) (sa sb : ByteArray) (aa ab : Option Addr) (la ca lb cb : Nat) (w : World) (HTa : Hid (Tre w (fun g => base ≤ g) (.agg #[.int .i64 ka, .int .i64 na, .string sa, .slice aa la ca]) ta)) (HTb : Hid (Tre w (fun g => base ≤ g) (.agg #[.int .i64 kb, .int .i64 nb, .string sb, .slice ab lb cb]) tb)) (hbase : base ≤ w.heap.size) (hk : k = 11 ∨ k = 12) (hx : ¬ ((knK ka) ≠ 0 ∧ (knK kb) ≠ 0)) :
    Calls Try.prog 50 #[.int .i64 k, .agg #[.int .i64 ka, .int .i64 na, .string sa, .slice aa la ca], .agg #[.int .i64 kb, .int .i64 nb, .string sb, .slice ab lb cb]] w (FPost base w ⟨k, 0, [], [ta, tb]⟩) := by
  have HT : Hid (∀ w, Calls Try.prog 78 #[.agg #[.int .i64 (knK ka), .int .i64 (knN ka na), .int .i64 (knK kb), .int .i64 (knN kb nb)]] w fun e w' => e = .returned (.bool false) ∧ Below w.heap.size w w') := fun w => by have := both_any (knK ka) (knN ka na) (knK kb) (knN kb nb) w; rw [decide_eq_false hx] at this; exact this
  have hk3 : (k == 13) = false := by simp; omega
  have hk4 : (k == 14) = false := by simp; omega
  have hkb : (k == 11) = true ∨ (k == 11) = false ∧ (k == 12) = true := by simp; omega
  clear hk hx
  obtain ⟨w0, hw0⟩ : ∃ w0, w0 = ((w.alloc (.cells #[.int .i64 ka, .int .i64 na, .string sa, .slice aa la ca] 24)).alloc (.cells #[.int .i64 kb, .int .i64 nb, .string sb, .slice ab lb cb] 24)).alloc (.cells #[.int .i64 0, .int .i64 0, .string ⟨#[]⟩, .slice none 0 0] 24) := ⟨_, rfl⟩
  have HX : Hid (∀ w', Below w0.heap.size w0 w' → Cell4 w' w.heap.size (.int .i64 ka) (.int .i64 na) (.string sa) (.slice aa la ca) ∧ Cell4 w' (w.heap.size + 1) (.int .i64 kb) (.int .i64 nb) (.string sb) (.slice ab lb cb) ∧ Cell4 w' (w.heap.size + 1 + 1) (.int .i64 0) (.int .i64 0) (.string ⟨#[]⟩) (.slice none 0 0) ∧ Below w.heap.size w w') := fun w' h => by rw [hw0] at h; exact three_new w _ _ _ _ _ _ _ _ h
  have HXn : Hid (w0.heap.size = w.heap.size + 3) := by unfold Hid; rw [hw0, size_alloc, size_alloc, size_alloc]
  go_enter Try.func50, Try.ntmps50
  go_wp2_with fail
  rw [← hw0]
  clear hw0
  obtain ⟨⟨p0, p1, p2, p3, p4⟩, ⟨q0, q1, q2, q3, q4⟩, ⟨r0, r1, r2, r3, r4⟩, _⟩ := HX.out _ (Below.refl _ _)
  have n0 : w0.heap.size ≠ w.heap.size := Nat.ne_of_gt (World.block_lt_of_cell? _ _ p0)
  have m0 : w0.heap.size ≠ w.heap.size + 1 := Nat.ne_of_gt (World.block_lt_of_cell? _ _ q0)
  have HS : Hid (Below w0.heap.size w0 w0.drew) := Below.drew (Below.refl _ _)
  go_region_held3 (fun w' => w'.cell? ⟨w.heap.size, 0, none⟩ = some (.int .i64 ka) ∧ w'.cell? ⟨w.heap.size, 1, none⟩ = some (.int .i64 na) ∧ w'.cell? ⟨w.heap.size, 2, none⟩ = some (.string sa) ∧ w'.cell? ⟨w.heap.size, 3, none⟩ = some (.slice aa la ca) ∧ w'.cell? ⟨w.heap.size + 1, 0, none⟩ = some (.int .i64 kb) ∧ w'.cell? ⟨w.heap.size + 1, 1, none⟩ = some (.int .i64 nb) ∧ w'.cell? ⟨w.heap.size + 1, 2, none⟩ = some (.string sb) ∧ w'.cell? ⟨w.heap.size + 1, 3, none⟩ = some (.slice ab lb cb)) (go_keep) (first
    | (go_at_call 74; have := HZ2; refine (know_any _ _ _ _ _ _ _).mono ?_; rintro e w5 ⟨rfl, HB⟩; have HZ3 : Hid (Below w0.heap.size w0 w5 ∧ Cell4 w5 w0.heap.size (.int .i64 0) (.int .i64 0) (.int .i64 0) (.int .i64 0)) := ⟨HZ2.out.1.trans (HB.mono HZ2.out.1.size), HZ2.out.2.below HB⟩; obtain ⟨z0, z1, z2, z3, z4⟩ := HZ3.out.2; obtain ⟨⟨p0, p1, p2, p3, p4⟩, ⟨q0, q1, q2, q3, q4⟩, ⟨r0, r1, r2, r3, r4⟩, _⟩ := HX.out _ HZ3.out.1; clear HB)
    | (go_at_call 74; have := HS2; refine (know_any _ _ _ _ _ _ _).mono ?_; rintro e w5 ⟨rfl, HB⟩; have HZ4 : Hid (Below w0.heap.size w0 w5 ∧ Cell4 w5 w4.heap.size (.int .i64 0) (.int .i64 0) (.int .i64 0) (.int .i64 0)) := ⟨(HS2.out.alloc HS2.out.size (.cells #[.int .i64 0, .int .i64 0, .int .i64 0, .int .i64 0] 97)).trans (HB.mono (Nat.le_trans HS2.out.size (le_alloc _ _))), (Cell4.new w4 (.int .i64 0) (.int .i64 0) (.int .i64 0) (.int .i64 0) 97).below HB⟩; obtain ⟨z0, z1, z2, z3, z4⟩ := HZ4.out.2; obtain ⟨⟨p0, p1, p2, p3, p4⟩, ⟨q0, q1, q2, q3, q4⟩, ⟨r0, r1, r2, r3, r4⟩, _⟩ := HX.out _ HZ4.out.1; clear HB)
    | (go_at_call 74; have := HS2; refine (know_any _ _ _ _ _ _ _).mono ?_; rintro e w5 ⟨rfl, HB⟩; have HS3 : Hid (Below w0.heap.size w0 w5) := HS2.out.trans (HB.mono HS2.out.size); obtain ⟨⟨p0, p1, p2, p3, p4⟩, ⟨q0, q1, q2, q3, q4⟩, ⟨r0, r1, r2, r3, r4⟩, _⟩ := HX.out _ HS3.out; have n5 : w5.heap.size ≠ w.heap.size := Nat.ne_of_gt (World.block_lt_of_cell? _ _ p0); have m5 : w5.heap.size ≠ w.heap.size + 1 := Nat.ne_of_gt (World.block_lt_of_cell? _ _ q0); clear HB)
    | (go_at_call 74; refine (know_any _ _ _ _ _ _ _).mono ?_; rintro e w4 ⟨rfl, HB⟩; have HZ2 : Hid (Below w0.heap.size w0 w4 ∧ Cell4 w4 w0.heap.size (.int .i64 0) (.int .i64 0) (.int .i64 0) (.int .i64 0)) := ⟨(HS.out.alloc HS.out.size (.cells #[.int .i64 0, .int .i64 0, .int .i64 0, .int .i64 0] 97)).trans (HB.mono (Nat.le_trans HS.out.size (le_alloc _ _))), (Cell4.new w0.drew (.int .i64 0) (.int .i64 0) (.int .i64 0) (.int .i64 0) 97).below HB⟩; obtain ⟨z0, z1, z2, z3, z4⟩ := HZ2.out.2; obtain ⟨⟨p0, p1, p2, p3, p4⟩, ⟨q0, q1, q2, q3, q4⟩, ⟨r0, r1, r2, r3, r4⟩, _⟩ := HX.out _ HZ2.out.1; clear HB)
    | (go_at_call 74; refine (know_any _ _ _ _ _ _ _).mono ?_; rintro e w4 ⟨rfl, HB⟩; have HS2 : Hid (Below w0.heap.size w0 w4) := HS.out.trans (HB.mono HS.out.size); obtain ⟨⟨p0, p1, p2, p3, p4⟩, ⟨q0, q1, q2, q3, q4⟩, ⟨r0, r1, r2, r3, r4⟩, _⟩ := HX.out _ HS2.out; have n4 : w4.heap.size ≠ w.heap.size := Nat.ne_of_gt (World.block_lt_of_cell? _ _ p0); have m4 : w4.heap.size ≠ w.heap.size + 1 := Nat.ne_of_gt (World.block_lt_of_cell? _ _ q0); clear HB))
  all_goals first
    | (have := HS3
       obtain ⟨w6, hw6⟩ : ∃ w6, w6 = w5.alloc (.cells #[.int .i64 (knK ka), .int .i64 (knN ka na), .int .i64 (knK kb), .int .i64 (knN kb nb)] 97) := ⟨_, rfl⟩
       obtain ⟨z, hz⟩ : ∃ z, z = w5.heap.size := ⟨_, rfl⟩
       have HY : Hid (Sit w w6 z (.int .i64 ka) (.int .i64 na) (.string sa) (.slice aa la ca) (.int .i64 kb) (.int .i64 nb) (.string sb) (.slice ab lb cb) (.int .i64 (knK ka)) (.int .i64 (knN ka na)) (.int .i64 (knK kb)) (.int .i64 (knN kb nb))) := by
         obtain ⟨h1, h2, h3, h4⟩ := HX.out _ HS3.out
         rw [hw6, hz]; exact ⟨h1.alloc _, h2.alloc _, h3.alloc _, Cell4.new w5 _ _ _ _ 97, h4.alloc h4.size _⟩
       rw [← hw6, ← hz]
       clear hw6 hz HS3 HS2 n5 m5 n4 m4)
    | (have := HZ4
       obtain ⟨w6, hw6⟩ : ∃ w6, w6 = (((w5.setCell ⟨w4.heap.size, 0, none⟩ (.int .i64 (knK ka))).setCell ⟨w4.heap.size, 0 + 1, none⟩ (.int .i64 (knN ka na))).setCell ⟨w4.heap.size, 0 + 2, none⟩ (.int .i64 (knK kb))).setCell ⟨w4.heap.size, 0 + 3, none⟩ (.int .i64 (knN kb nb)) := ⟨_, rfl⟩
       obtain ⟨z, hz⟩ : ∃ z, z = w4.heap.size := ⟨_, rfl⟩
       have HY : Hid (Sit w w6 z (.int .i64 ka) (.int .i64 na) (.string sa) (.slice aa la ca) (.int .i64 kb) (.int .i64 nb) (.string sb) (.slice ab lb cb) (.int .i64 (knK ka)) (.int .i64 (knN ka na)) (.int .i64 (knK kb)) (.int .i64 (knN kb nb))) := by
         obtain ⟨h1, h2, h3, h4⟩ := HX.out _ HZ4.out.1
         have hge := HS2.out.size
         have hgn := HXn.out
         rw [hw6, hz]; exact ⟨h1.four (by omega), h2.four (by omega), h3.four (by omega), HZ4.out.2.put, below_four h4 (by omega)⟩
       simp only [Nat.zero_add] at hw6
       rw [← hw6, ← hz]
       clear hw6 hz HZ4 HS2 n4 m4)
    | (have := HZ3
       obtain ⟨w6, hw6⟩ : ∃ w6, w6 = (((w5.setCell ⟨w0.heap.size, 0, none⟩ (.int .i64 (knK ka))).setCell ⟨w0.heap.size, 0 + 1, none⟩ (.int .i64 (knN ka na))).setCell ⟨w0.heap.size, 0 + 2, none⟩ (.int .i64 (knK kb))).setCell ⟨w0.heap.size, 0 + 3, none⟩ (.int .i64 (knN kb nb)) := ⟨_, rfl⟩
       obtain ⟨z, hz⟩ : ∃ z, z = w0.heap.size := ⟨_, rfl⟩
       have HY : Hid (Sit w w6 z (.int .i64 ka) (.int .i64 na) (.string sa) (.slice aa la ca) (.int .i64 kb) (.int .i64 nb) (.string sb) (.slice ab lb cb) (.int .i64 (knK ka)) (.int .i64 (knN ka na)) (.int .i64 (knK kb)) (.int .i64 (knN kb nb))) := by
         obtain ⟨h1, h2, h3, h4⟩ := HX.out _ HZ3.out.1
         have hgn := HXn.out
         rw [hw6, hz]; exact ⟨h1.four (by omega), h2.four (by omega), h3.four (by omega), HZ3.out.2.put, below_four h4 (by omega)⟩
       simp only [Nat.zero_add] at hw6
       rw [← hw6, ← hz]
       clear hw6 hz HZ3 HZ2)
  all_goals (
    generalize knK ka = xa at *
    generalize knN ka na = ya at *
    generalize knK kb = xb at *
    generalize knN kb nb = yb at *
    obtain ⟨p0, p1, p2, p3, p4⟩ := HY.out.a
    obtain ⟨q0, q1, q2, q3, q4⟩ := HY.out.b
    obtain ⟨r0, r1, r2, r3, r4⟩ := HY.out.r
    obtain ⟨z0, z1, z2, z3, z4⟩ := HY.out.z
    have hlz := World.block_lt_of_cell? _ _ z0
    have hlp := World.block_lt_of_cell? _ _ p0
    have hlq := World.block_lt_of_cell? _ _ q0
    have hlr := World.block_lt_of_cell? _ _ r0
    rcases hkb with hkb | ⟨hkb, hkc⟩
    all_goals (
      go_wp2_with (go_at_call 78; have := HY; refine (HT.out _).mono ?_; rintro e w7 ⟨rfl, HB⟩; have HY7 : Hid (Sit w w7 z (.int .i64 ka) (.int .i64 na) (.string sa) (.slice aa la ca) (.int .i64 kb) (.int .i64 nb) (.string sb) (.slice ab lb cb) (.int .i64 xa) (.int .i64 ya) (.int .i64 xb) (.int .i64 yb)) := HY.out.below HB; obtain ⟨p0, p1, p2, p3, p4⟩ := HY7.out.a; obtain ⟨q0, q1, q2, q3, q4⟩ := HY7.out.b; obtain ⟨r0, r1, r2, r3, r4⟩ := HY7.out.r; obtain ⟨z0, z1, z2, z3, z4⟩ := HY7.out.z; have hlz := World.block_lt_of_cell? _ _ z0; have hlp := World.block_lt_of_cell? _ _ p0; have hlq := World.block_lt_of_cell? _ _ q0; have hlr := World.block_lt_of_cell? _ _ r0; clear HB HY)
      refine bodyPost_ret (v := .agg #[.int .i64 k, .int .i64 0, .string ⟨#[]⟩, .slice (some ⟨w7.heap.size, 0, none⟩) 2 2]) (by simp [results, Try.results50, go_sem, r0, r1, r2, r3, hlr]) rfl ⟨_, _, _, _, _, _, rfl, ?_⟩
      exact node2_out (below_four HY7.out.bel (M := w.heap.size + 1 + 1) (o := 0) (by omega)) hbase HTa.out HTb.out HKi.out four_size.symm))
end Go.Proofs.Ytdnpbnhfakjhoaa
