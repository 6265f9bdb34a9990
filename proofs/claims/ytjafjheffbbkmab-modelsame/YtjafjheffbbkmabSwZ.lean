/-
  ModelSame's walk.
-/
import Derived.Test.YtjafjheffbbkmabTkD
import Derived.Test.YtjafjheffbbkmabRWt
import Derived.Test.YtjafjheffbbkmabRSZ
import Derived.Test.YtjafjheffbbkmabWrZ
import Derived.Deep.RegionHeld3
namespace Go.Proofs.Ytjafjheffbbkmab
open Go.RowKit
set_option linter.unusedVariables false

structure Ck2 (w w' : World) (f g : Df) (a : Option Addr) (c : Nat) (b : Option Addr) (d : Nat) : Prop where
  bel : Below w.heap.size w w'
  df : DfV w' (fun _ => True) f a c
  dg : DfV w' (fun _ => True) g b d
  c1 : Cell2 w' w.heap.size (.string (ba f.id)) (.slice a f.places.length c)
  c2 : Cell2 w' (w.heap.size + 1) (.string (ba g.id)) (.slice b g.places.length d)
theorem Ck2.below {w w1 w' : World} {f g : Df} {a : Option Addr} {c : Nat} {b : Option Addr} {d : Nat} (h : Ck2 w w1 f g a c b d) (hb : Below w1.heap.size w1 w') : Ck2 w w' f g a c b d :=
  ⟨h.bel.trans (hb.mono h.bel.size), h.df.kept (kept_below hb), h.dg.kept (kept_below hb), h.c1.below hb, h.c2.below hb⟩
theorem sameQ_det {α : Type} {x y : α} {B : Bool} (hB : B = true ↔ x = y) {e : Ending} (h : SameQ x y e) : e = .returned (.bool B) := by
  obtain ⟨b, rfl, hb⟩ := h
  have : b = B := by
    by_cases hx : x = y
    · rw [hb.mpr hx, hB.mpr hx]
    · have h1 : b = false := by cases b; rfl; exact absurd (hb.mp rfl) hx
      have h2 : B = false := by cases B; rfl; exact absurd (hB.mp rfl) hx
      rw [h1, h2]
  rw [this]
set_option maxRecDepth 100000 in
set_option maxHeartbeats 2000000 in
theorem same_walk (f g : Df) (a : Option Addr) (c : Nat) (b : Option Addr) (d : Nat) (w : World) (h1 : DfV w (fun _ => True) f a c) (h2 : DfV w (fun _ => True) g b d) :
    Calls Try.prog 3 #[dfA f a c, dfA g b d] w fun e w' => e = .returned (.bool true) ∧ Below w.heap.size w w' := by
  show Calls Try.prog 3 #[.agg #[.string (ba f.id), .slice a f.places.length c], .agg #[.string (ba g.id), .slice b g.places.length d]] w _
  obtain ⟨B, hB⟩ : ∃ B : Bool, B = true ↔ f = g := by
    by_cases h : f = g
    · exact ⟨true, by simp [h]⟩
    · exact ⟨false, by simp [h]⟩
  have HK0 : Hid (Ck2 w ((w.alloc (.cells #[.string (ba f.id), .slice a f.places.length c] 24)).alloc (.cells #[.string (ba g.id), .slice b g.places.length d] 24)) f g a c b d) := by
    have hb : Below w.heap.size w ((w.alloc (.cells #[.string (ba f.id), .slice a f.places.length c] 24)).alloc (.cells #[.string (ba g.id), .slice b g.places.length d] 24)) := ((Below.refl _ _).alloc (Nat.le_refl _) _).alloc (le_alloc _ _) _
    exact ⟨hb, h1.kept (kept_below hb), h2.kept (kept_below hb), (Cell2.new w _ _ 24).alloc _, Cell2.second w _ _ _ 24⟩
  have H4a : Hid (Calls Try.prog 4 #[.agg #[.string (ba f.id), .slice a f.places.length c]] ((w.alloc (.cells #[.string (ba f.id), .slice a f.places.length c] 24)).alloc (.cells #[.string (ba g.id), .slice b g.places.length d] 24)) fun e w' => (∃ b, e = .returned (.bool b)) ∧ Ck2 w w' f g a c b d) := by
    refine (light_any (fun _ => True) f a c _ HK0.out.df).mono ?_
    rintro e w' ⟨q1, q2⟩
    exact ⟨q1, HK0.out.below q2⟩
  have H4b : Hid (∀ w1, Ck2 w w1 f g a c b d → Calls Try.prog 4 #[.agg #[.string (ba g.id), .slice b g.places.length d]] w1 fun e w' => (∃ b, e = .returned (.bool b)) ∧ Ck2 w w' f g a c b d) := fun w1 q => by
    refine (light_any (fun _ => True) g b d _ q.dg).mono ?_
    rintro e w' ⟨q1, q2⟩
    exact ⟨q1, q.below q2⟩
  have H6 : Hid (∀ w1, Ck2 w w1 f g a c b d → Calls Try.prog 6 #[.agg #[.string (ba f.id), .slice a f.places.length c], .agg #[.string (ba g.id), .slice b g.places.length d]] w1 fun e w' => e = .returned (.bool B) ∧ Ck2 w w' f g a c b d) := fun w1 q => (MSame_any _ _ f g a c b d w1 q.df q.dg).mono fun e w' q1 => ⟨sameQ_det hB q1.1, q.below q1.2⟩
  have H7 : Hid (∀ w1, Ck2 w w1 f g a c b d → Calls Try.prog 7 #[.agg #[.string (ba f.id), .slice a f.places.length c], .agg #[.string (ba g.id), .slice b g.places.length d]] w1 fun e w' => e = .returned (.bool B) ∧ Ck2 w w' f g a c b d) := fun w1 q => (RDSame_any _ _ f g a c b d w1 q.df q.dg).mono fun e w' q1 => ⟨sameQ_det hB q1.1, q.below q1.2⟩
  have H6b : Hid (∀ w1, Ck2 w w1 f g a c b d → Calls Try.prog 6 #[.agg #[.string (ba f.id), .slice a f.places.length c], .agg #[.string (ba f.id), .slice a f.places.length c]] w1 fun e w' => e = .returned (.bool true) ∧ Ck2 w w' f g a c b d) := fun w1 q => (MSame_any _ _ f f a c a c w1 q.df q.df).mono fun e w' q1 => ⟨sameQ_det (by simp) q1.1, q.below q1.2⟩
  have H5 : Hid (∀ w1, Ck2 w w1 f g a c b d → Calls Try.prog 5 #[] w1 fun e w' => e = .returned (.bool true) ∧ Ck2 w w' f g a c b d) := fun w1 q => (works_any w1).mono fun e w' q1 => ⟨q1.1, q.below q1.2⟩
  have HC : Hid (∀ w1, Ck2 w w1 f g a c b d → w1.cell? ⟨w.heap.size, 0, none⟩ = some (.string (ba f.id)) ∧ w1.cell? ⟨w.heap.size, 1, none⟩ = some (.slice a f.places.length c) ∧ w1.cell? ⟨w.heap.size + 1, 0, none⟩ = some (.string (ba g.id)) ∧ w1.cell? ⟨w.heap.size + 1, 1, none⟩ = some (.slice b g.places.length d)) := fun _ q => ⟨q.c1.c0, q.c1.c1, q.c2.c0, q.c2.c1⟩
  clear h1 h2 hB HK0
  have hBB : (B == B) = true := by cases B <;> rfl
  generalize ba f.id = s at *
  generalize f.places.length = pn at *
  generalize ba g.id = s2 at *
  generalize g.places.length = pn2 at *
  go_enter Try.func3, Try.ntmps3
  go_wp2_with (first
    | (go_at_call 5; have := T2; refine (H5.out _ T2.out).mono ?_; rintro e wz ⟨rfl, qz⟩; have TZ : Hid (Ck2 w wz f g a c b d) := qz; clear qz)
    | (go_at_call 5; have := T1; refine (H5.out _ T1.out).mono ?_; rintro e wz ⟨rfl, qz⟩; have TZ : Hid (Ck2 w wz f g a c b d) := qz; clear qz)
    | (go_at_call 4; have := T1; refine (H4b.out _ T1.out).mono ?_; rintro e w2 ⟨⟨y2, rfl⟩, q1⟩; have T2 : Hid (Ck2 w w2 f g a c b d) := q1; obtain ⟨x0, x1, x2, x3⟩ := HC.out _ q1; clear q1 T1; cases y2)
    | (go_at_call 4; refine H4a.out.mono ?_; rintro e w1 ⟨⟨y1, rfl⟩, q1⟩; have T1 : Hid (Ck2 w w1 f g a c b d) := q1; obtain ⟨x0, x1, x2, x3⟩ := HC.out _ q1; clear q1; cases y1))
  all_goals first
    | (go_ret; exact ⟨rfl, TZ.out.bel⟩)
    | (have := T2
       go_region_held3 (fun w' => w'.cell? ⟨w.heap.size, 0, none⟩ = some (.string s) ∧ w'.cell? ⟨w.heap.size, 1, none⟩ = some (.slice a pn c) ∧ w'.cell? ⟨w.heap.size + 1, 0, none⟩ = some (.string s2) ∧ w'.cell? ⟨w.heap.size + 1, 1, none⟩ = some (.slice b pn2 d)) (go_keep) (first
         | (go_at_call 5; have := T5; refine (H5.out _ T5.out).mono ?_; rintro e wz ⟨rfl, qz⟩; have TZ : Hid (Ck2 w wz f g a c b d) := qz; obtain ⟨z0, z1, z2, z3⟩ := HC.out _ qz; clear qz T5)
         | (go_at_call 6; have := T4; refine (H6b.out _ T4.out).mono ?_; rintro e w5 ⟨rfl, qz⟩; have T5 : Hid (Ck2 w w5 f g a c b d) := qz; obtain ⟨z0, z1, z2, z3⟩ := HC.out _ qz; clear qz T4)
         | (go_at_call 7; have := T3; refine (H7.out _ T3.out).mono ?_; rintro e w4 ⟨rfl, qz⟩; have T4 : Hid (Ck2 w w4 f g a c b d) := qz; obtain ⟨z0, z1, z2, z3⟩ := HC.out _ qz; clear qz T3)
         | (go_at_call 6; have := T2; refine (H6.out _ (T2.out.below (Below.drew (Below.refl _ _)))).mono ?_; rintro e w3 ⟨rfl, qz⟩; have T3 : Hid (Ck2 w w3 f g a c b d) := qz; obtain ⟨z0, z1, z2, z3⟩ := HC.out _ qz; clear qz T2))
       go_wp2_with fail
       go_ret
       exact ⟨rfl, TZ.out.bel⟩)
end Go.Proofs.Ytjafjheffbbkmab
