/-
  The document's split: the walk.
-/
import Derived.Test.YtfjphlejhcdbaaaLexA
import Derived.Deep.RegionHeld3
namespace Go.Proofs.Ytfjphlejhcdbaaa
open Go.RowKit
set_option linter.unusedVariables false



theorem Lie.drawn {w : World} {b o : Nat} {l : List W} (h : Lie w b o l) : Lie w.drew b o l := fun i hi => ⟨(h i hi).c0, (h i hi).c1, (h i hi).c2, (h i hi).c3⟩
theorem step_keep {l : List W} {k : Nat} (hlt : k < l.length) (h : 0 < (goG l (k + 1)).deep ∨ kindW (atL l k) = 0 ∨ (goG l k).en = false) : bestI (goG l (k + 1)).best = bestI (goG l k).best := by
  rw [goG_next hlt] at h ⊢
  show bestI (if 0 < deepW (atL l k) (goG l k).deep ∨ kindW (atL l k) = 0 ∨ (goG l k).en = false then (goG l k).best else _) = _
  exact congrArg bestI (if_pos h)
theorem step_take {l : List W} {k : Nat} (hlt : k < l.length) (h : ¬ 0 < (goG l (k + 1)).deep) (hK : kindW (atL l k) ≠ 0) (he : (goG l k).en = true) : (goG l (k + 1)).best = better k (levW (atL l k)) (goG l k).best := by
  rw [goG_next hlt] at h ⊢
  show (if 0 < deepW (atL l k) (goG l k).deep ∨ kindW (atL l k) = 0 ∨ (goG l k).en = false then (goG l k).best else better (goG l k).i (levW (atL l k)) (goG l k).best) = _
  rw [if_neg, (all_gone l k (Nat.le_of_lt hlt)).i]
  rintro (h1 | h1 | h1)
  · exact h h1
  · exact hK h1
  · rw [he] at h1; exact absurd h1 (by decide)
theorem step_none {l : List W} {k : Nat} (hlt : k < l.length) (h : ¬ 0 < (goG l (k + 1)).deep) (hK : kindW (atL l k) ≠ 0) (he : (goG l k).en = true) (hb : (goG l k).best = none) : bestI (goG l (k + 1)).best = k := by
  rw [step_take hlt h hK he, hb]; rfl
theorem step_some {l : List W} {k : Nat} (hlt : k < l.length) (h : ¬ 0 < (goG l (k + 1)).deep) (hK : kindW (atL l k) ≠ 0) (he : (goG l k).en = true) (y : Nat × Nat) (hb : (goG l k).best = some y) :
    (levW (atL l k) ≤ levW (atL l y.1) → bestI (goG l (k + 1)).best = k) ∧ (¬ levW (atL l k) ≤ levW (atL l y.1) → bestI (goG l (k + 1)).best = y.1) := by
  rw [step_take hlt h hK he, hb]
  rw [← ((all_gone l k (Nat.le_of_lt hlt)).best y hb).2]
  show (_ → bestI (if levW (atL l k) ≤ y.2 then _ else _) = _) ∧ (_ → bestI (if levW (atL l k) ≤ y.2 then _ else _) = _)
  exact ⟨fun h => by rw [if_pos h]; rfl, fun h => by rw [if_neg h]; rfl⟩
set_option maxRecDepth 100000 in
set_option maxHeartbeats 8000000 in
theorem rsp_any (l : List W) (hl : l.length ≤ 4096) (hok : ∀ i, i < l.length → (atL l i).kind = 3 → ∃ c, (atL l i).text = [c]) (b o cap : Nat) (hcap : l.length ≤ cap) (w : World) (HL : Hid (Lie w b o l)) :
    Calls Try.prog 61 #[.slice (some ⟨b, o, none⟩) l.length cap] w fun e w' => e = .returned (.int .i64 (bestI (goG l l.length).best)) ∧ Below w.heap.size w w' := by
  have HOK : Hid (∀ i, i < l.length → (atL l i).kind = 3 → ∃ c, (atL l i).text = [c]) := hok
  clear hok
  go_enter Try.func61, Try.ntmps61
  go_wp2
  go_loopw [3, 4, 5] (fun v d i wr => ∃ (k : Nat), k ≤ l.length ∧ i = .int .i64 k ∧ v = .int .i64 (bestI (goG l k).best) ∧ d = .int .i64 (goG l k).deep ∧ Hid (Below w.heap.size w wr)) (fun _ _ i _ => l.length - (intOf i).toNat)
  case atStart => exact ⟨0, Nat.zero_le _, rfl, rfl, rfl, Below.refl _ _⟩
  case round =>
    obtain ⟨k, hk, rfl, rfl, rfl, HR⟩ := hrel
    by_cases hlt : k < l.length
    · have HL0 : Hid (Lie wr b o l) := HL.out.below HR.out
      have HG : Hid (Gone l k (goG l k)) := all_gone l k hk
      obtain ⟨x0, x1, x2, x3⟩ := HL0.out k hlt
      have hbl : b < wr.heap.size := World.block_lt_of_cell? wr _ x0
      have HI1 : Hid (∀ w, Calls Try.prog 58 #[.agg #[.int .i64 (atL l k).kind, .string (ba (atL l k).text), .int .i64 (atL l k).n, .int .i64 (atL l k).pos], .string ⟨#[40]⟩] w fun e w' => e = .returned (.bool (isW (atL l k) 40)) ∧ Below w.heap.size w w') := is_as rfl
      have HI2 : Hid (∀ w, Calls Try.prog 58 #[.agg #[.int .i64 (atL l k).kind, .string (ba (atL l k).text), .int .i64 (atL l k).n, .int .i64 (atL l k).pos], .string ⟨#[41]⟩] w fun e w' => e = .returned (.bool (isW (atL l k) 41)) ∧ Below w.heap.size w w') := is_as rfl
      have hd1 := HG.out.lo
      have hd2 := HG.out.hi
      have hb12 : isW (atL l k) 40 = true → isW (atL l k) 41 = false := fun h => isW_not h (by decide)
      have HDD : Hid ((goG l (k + 1)).deep = (if isW (atL l k) 40 then (goG l k).deep + 1 else (goG l k).deep) - (if isW (atL l k) 41 then 1 else 0)) := by rw [goG_next hlt]; rfl
      have HT : Hid (∀ D, (goG l (k + 1)).deep = D → (0 < D ∨ kindW (atL l k) = 0 ∨ (goG l k).en = false) → bestI (goG l (k + 1)).best = bestI (goG l k).best) := fun D h1 h2 => step_keep hlt (by rw [h1]; exact h2)
      have HT0 : Hid (∀ D, (goG l (k + 1)).deep = D → ¬ 0 < D → kindW (atL l k) ≠ 0 → (goG l k).en = true → (goG l k).best = none → bestI (goG l (k + 1)).best = k) := fun D h1 h2 h3 h4 h5 => step_none hlt (by rw [h1]; exact h2) h3 h4 h5
      have HU : Hid (∀ D, (goG l (k + 1)).deep = D → ¬ 0 < D → kindW (atL l k) ≠ 0 → (goG l k).en = true → ∀ y, (goG l k).best = some y → (levW (atL l k) ≤ levW (atL l y.1) → bestI (goG l (k + 1)).best = k) ∧ (¬ levW (atL l k) ≤ levW (atL l y.1) → bestI (goG l (k + 1)).best = y.1)) := fun D h1 h2 h3 h4 y h5 => step_some hlt (by rw [h1]; exact h2) h3 h4 y h5
      generalize hd : (goG l k).deep = d at *
      generalize hz : bestI (goG l k).best = z at *
      generalize isW (atL l k) 40 = b1 at *
      generalize isW (atL l k) 41 = b2 at *
      clear hd
      cases b1 with
      | true =>
        have := hb12 rfl
        subst this
        replace HDD : Hid ((goG l (k + 1)).deep = d + 1) := by have t := HDD.out; simp at t; exact t
        clear hb12
        by_cases hD : 0 < (d + 1)
        · have HE0 : Hid (bestI (goG l (k + 1)).best = z) := HT.out (d + 1) HDD.out (.inl hD)
          go_wp2_with (first
            | (go_at_call 58; have := HD1; refine (HI2.out _).mono ?_; rintro e w2 ⟨rfl, HB⟩; have HL2 : Hid (Lie w2 b o l) := HL1.out.below HB; have HB2 : Hid (Below w.heap.size w w2) := HB1.out.trans (HB.mono HB1.out.size); obtain ⟨x0, x1, x2, x3⟩ := HL2.out k hlt; have hbl : b < w2.heap.size := World.block_lt_of_cell? w2 _ x0; have HD2 : Hid True := trivial; clear HB)
            | (go_at_call 58; refine (HI1.out _).mono ?_; rintro e w1 ⟨rfl, HB⟩; have HL1 : Hid (Lie w1 b o l) := HL0.out.below HB; have HB1 : Hid (Below w.heap.size w w1) := HR.out.trans (HB.mono HR.out.size); obtain ⟨x0, x1, x2, x3⟩ := HL1.out k hlt; have hbl : b < w1.heap.size := World.block_lt_of_cell? w1 _ x0; have HD1 : Hid True := trivial; clear HB))
          go_roundw
          case rel => exact ⟨k + 1, by omega, by go_num, congrArg (Value.int .i64) HE0.out.symm, congrArg (Value.int .i64) HDD.out.symm, HB2.out⟩
          case measure => simp [intOf]; omega
        · by_cases hk0 : k = 0
          · subst hk0
            have HE0 : Hid (bestI (goG l (0 + 1)).best = z) := HT.out (d + 1) HDD.out (.inr (.inr (HG.out.en0 rfl)))
            simp only [Nat.zero_mul, Nat.add_zero] at x0 x1 x2 x3
            go_wp2_with (first
              | (go_at_call 58; have := HD1; refine (HI2.out _).mono ?_; rintro e w2 ⟨rfl, HB⟩; have HL2 : Hid (Lie w2 b o l) := HL1.out.below HB; have HB2 : Hid (Below w.heap.size w w2) := HB1.out.trans (HB.mono HB1.out.size); obtain ⟨x0, x1, x2, x3⟩ := HL2.out 0 hlt; simp only [Nat.zero_mul, Nat.add_zero] at x0 x1 x2 x3; have hbl : b < w2.heap.size := World.block_lt_of_cell? w2 _ x0; have HD2 : Hid True := trivial; clear HB)
              | (go_at_call 58; refine (HI1.out _).mono ?_; rintro e w1 ⟨rfl, HB⟩; have HL1 : Hid (Lie w1 b o l) := HL0.out.below HB; have HB1 : Hid (Below w.heap.size w w1) := HR.out.trans (HB.mono HR.out.size); obtain ⟨x0, x1, x2, x3⟩ := HL1.out 0 hlt; simp only [Nat.zero_mul, Nat.add_zero] at x0 x1 x2 x3; have hbl : b < w1.heap.size := World.block_lt_of_cell? w1 _ x0; have HD1 : Hid True := trivial; clear HB))
            go_roundw
            case rel => exact ⟨0 + 1, by omega, by go_num, congrArg (Value.int .i64) HE0.out.symm, congrArg (Value.int .i64) HDD.out.symm, HB2.out⟩
            case measure => simp [intOf]; omega
          · have hk0i : ((k : Int) == 0) = false := by simp; exact hk0
            by_cases hK : kindW (atL l k) = 0
            · have HK : Hid (∀ w, Calls Try.prog 60 #[.agg #[.int .i64 (atL l k).kind, .string (ba (atL l k).text), .int .i64 (atL l k).n, .int .i64 (atL l k).pos]] w fun e w' => e = .returned (.int .i64 0) ∧ Below w.heap.size w w') := kind_as (HOK.out k hlt) (by rw [hK]; rfl)
              have HE0 : Hid (bestI (goG l (k + 1)).best = z) := HT.out (d + 1) HDD.out (.inr (.inl hK))
              go_wp2_with (first
                | (go_at_call 60; refine (HK.out _).mono ?_; rintro e w3 ⟨rfl, HB⟩; have HB3 : Hid (Below w.heap.size w w3) := HB2.out.trans (HB.mono HB2.out.size); clear HB)
                | (go_at_call 58; have := HD1; refine (HI2.out _).mono ?_; rintro e w2 ⟨rfl, HB⟩; have HL2 : Hid (Lie w2 b o l) := HL1.out.below HB; have HB2 : Hid (Below w.heap.size w w2) := HB1.out.trans (HB.mono HB1.out.size); obtain ⟨x0, x1, x2, x3⟩ := HL2.out k hlt; have hbl : b < w2.heap.size := World.block_lt_of_cell? w2 _ x0; have HD2 : Hid True := trivial; clear HB)
                | (go_at_call 58; refine (HI1.out _).mono ?_; rintro e w1 ⟨rfl, HB⟩; have HL1 : Hid (Lie w1 b o l) := HL0.out.below HB; have HB1 : Hid (Below w.heap.size w w1) := HR.out.trans (HB.mono HR.out.size); obtain ⟨x0, x1, x2, x3⟩ := HL1.out k hlt; have hbl : b < w1.heap.size := World.block_lt_of_cell? w1 _ x0; have HD1 : Hid True := trivial; clear HB))
              go_roundw
              case rel => exact ⟨k + 1, by omega, by go_num, congrArg (Value.int .i64) HE0.out.symm, congrArg (Value.int .i64) HDD.out.symm, HB3.out⟩
              case measure => simp [intOf]; omega
            · have HK : Hid (∀ w, Calls Try.prog 60 #[.agg #[.int .i64 (atL l k).kind, .string (ba (atL l k).text), .int .i64 (atL l k).n, .int .i64 (atL l k).pos]] w fun e w' => e = .returned (.int .i64 (kindW (atL l k))) ∧ Below w.heap.size w w') := kind_as (HOK.out k hlt) rfl
              have hKi : (((kindW (atL l k) : Nat) : Int) == 0) = false := by simp; exact hK
              obtain ⟨j, rfl⟩ : ∃ j, k = j + 1 := ⟨k - 1, by omega⟩
              have hj : j < l.length := by omega
              clear hk0 hk0i
              have hk0i : ((j : Int) + 1 == 0) = false := by simp; omega
              have HEN : Hid ((goG l (j + 1)).en = endW (atL l j)) := HG.out.en j rfl
              have HI3 : Hid (∀ w, Calls Try.prog 58 #[.agg #[.int .i64 (atL l j).kind, .string (ba (atL l j).text), .int .i64 (atL l j).n, .int .i64 (atL l j).pos], .string ⟨#[41]⟩] w fun e w' => e = .returned (.bool (isW (atL l j) 41)) ∧ Below w.heap.size w w') := is_as rfl
              have HW : Hid (∀ q, isW (atL l j) 41 = q → endW (atL l j) = (decide ((atL l j).kind = 1) || decide ((atL l j).kind = 2) || q)) := fun q h => by unfold endW; rw [h]
              generalize hb3 : isW (atL l j) 41 = b3 at *
              by_cases hp1 : (atL l j).kind = 1
              · have HEND : Hid (endW (atL l j) = true) := by rw [HW.out b3 rfl, hp1]; rfl
                have hp1i : (((atL l j).kind : Int) != 1) = false := by simp; omega
                clear hp1 HI3 HW
                go_wp2_with (first
                  | (go_at_call 60; refine (HK.out _).mono ?_; rintro e w3 ⟨rfl, HB⟩; have HL3 : Hid (Lie w3 b o l) := HL2.out.below HB; have HB3 : Hid (Below w.heap.size w w3) := HB2.out.trans (HB.mono HB2.out.size); obtain ⟨x0, x1, x2, x3⟩ := HL3.out j hj; have hbl : b < w3.heap.size := World.block_lt_of_cell? w3 _ x0; have HD3 : Hid True := trivial; clear HB)
                  | (go_at_call 58; have := HD1; refine (HI2.out _).mono ?_; rintro e w2 ⟨rfl, HB⟩; have HL2 : Hid (Lie w2 b o l) := HL1.out.below HB; have HB2 : Hid (Below w.heap.size w w2) := HB1.out.trans (HB.mono HB1.out.size); obtain ⟨x0, x1, x2, x3⟩ := HL2.out (j + 1) hlt; have hbl : b < w2.heap.size := World.block_lt_of_cell? w2 _ x0; have HD2 : Hid True := trivial; clear HB)
                  | (go_at_call 58; refine (HI1.out _).mono ?_; rintro e w1 ⟨rfl, HB⟩; have HL1 : Hid (Lie w1 b o l) := HL0.out.below HB; have HB1 : Hid (Below w.heap.size w w1) := HR.out.trans (HB.mono HR.out.size); obtain ⟨x0, x1, x2, x3⟩ := HL1.out (j + 1) hlt; have hbl : b < w1.heap.size := World.block_lt_of_cell? w1 _ x0; have HD1 : Hid True := trivial; clear HB))
                obtain ⟨w4, hw4⟩ : ∃ w4, w4 = w3.alloc (.cells #[.int .i64 (atL l j).kind, .string (ba (atL l j).text), .int .i64 (atL l j).n, .int .i64 (atL l j).pos] 86) := ⟨_, rfl⟩
                rw [← hw4]
                have HL4 : Hid (Lie w4 b o l) := by rw [hw4]; exact HL3.out.below ((Below.refl _ _).alloc (Nat.le_refl _) _)
                have HB4 : Hid (Below w.heap.size w w4) := by rw [hw4]; exact HB3.out.alloc HB3.out.size _
                clear hw4
                obtain ⟨x0, x1, x2, x3⟩ := HL4.out (j + 1) hlt
                have hbl : b < w4.heap.size := World.block_lt_of_cell? w4 _ x0
                cases hbe : (goG l (j + 1)).best with
                | none =>
                  have hz1 : z = -1 := by rw [← hz, hbe]; rfl
                  have hz2 : decide (z < 0) = true := by rw [hz1]; rfl
                  have HZ : Hid (bestI (goG l (j + 1 + 1)).best = ((j + 1 : Nat) : Int)) := HT0.out (d + 1) HDD.out hD hK (by rw [HEN.out]; exact HEND.out) hbe
                  subst hz1
                  go_region
                  go_wp2_with fail
                  go_roundw
                  case rel => exact ⟨j + 1 + 1, by omega, by go_num, congrArg (Value.int .i64) HZ.out.symm, congrArg (Value.int .i64) HDD.out.symm, Below.drew HB4.out⟩
                  case measure => simp [intOf]; omega
                | some ml =>
                  have hz1 : z = (ml.1 : Int) := by rw [← hz, hbe]; rfl
                  subst hz1
                  obtain ⟨hmk, hmv⟩ := HG.out.best ml hbe
                  have HU1 : Hid _ := HU.out (d + 1) HDD.out hD hK (by rw [HEN.out]; exact HEND.out) ml hbe
                  generalize hml1 : ml.1 = m at *
                  have hml : m < l.length := by omega
                  obtain ⟨y0, y1, y2, y3⟩ := HL4.out m hml
                  have hmz : decide ((m : Int) < 0) = false := by simp
                  have HKm : Hid (∀ w, Calls Try.prog 60 #[.agg #[.int .i64 (atL l m).kind, .string (ba (atL l m).text), .int .i64 (atL l m).n, .int .i64 (atL l m).pos]] w fun e w' => e = .returned (.int .i64 (kindW (atL l m))) ∧ Below w.heap.size w w') := kind_as (HOK.out m hml) rfl
                  have HVm : Hid (∀ w, Calls Try.prog 59 #[.int .i64 (kindW (atL l m))] w fun e w' => e = .returned (.int .i64 (levW (atL l m))) ∧ w' = w) := level_as rfl
                  have HVk : Hid (∀ w, Calls Try.prog 59 #[.int .i64 (kindW (atL l (j + 1)))] w fun e w' => e = .returned (.int .i64 (levW (atL l (j + 1)))) ∧ w' = w) := level_as rfl
                  clear hmv hbe hz
                  generalize levW (atL l m) = vm at *
                  generalize levW (atL l (j + 1)) = vk at *
                  generalize kindW (atL l m) = km at *
                  by_cases hle : vk ≤ vm
                  · have HU2 : Hid _ := HU1.out.1 hle
                    have hlei : decide ((vk : Int) ≤ (vm : Int)) = true := by simp; omega
                    clear HU1
                    go_region_held3 (fun w' => w'.cell? ⟨b, o + (j + 1) * 4, none⟩ = some (.int .i64 (atL l (j + 1)).kind) ∧ w'.cell? ⟨b, o + (j + 1) * 4 + 1, none⟩ = some (.string (ba (atL l (j + 1)).text)) ∧ w'.cell? ⟨b, o + (j + 1) * 4 + 2, none⟩ = some (.int .i64 (atL l (j + 1)).n) ∧ w'.cell? ⟨b, o + (j + 1) * 4 + 3, none⟩ = some (.int .i64 (atL l (j + 1)).pos) ∧ w'.cell? ⟨b, o + m * 4, none⟩ = some (.int .i64 (atL l m).kind) ∧ w'.cell? ⟨b, o + m * 4 + 1, none⟩ = some (.string (ba (atL l m).text)) ∧ w'.cell? ⟨b, o + m * 4 + 2, none⟩ = some (.int .i64 (atL l m).n) ∧ w'.cell? ⟨b, o + m * 4 + 3, none⟩ = some (.int .i64 (atL l m).pos)) (go_keep) (first
                      | (go_at_call 60; have := HF1; refine (HKm.out _).mono ?_; rintro e w6 ⟨rfl, HB⟩; have HL6 : Hid (Lie w6 b o l) := HL5.out.below HB; have HB6 : Hid (Below w.heap.size w w6) := HB5.out.trans (HB.mono HB5.out.size); obtain ⟨x0, x1, x2, x3⟩ := HL6.out (j + 1) hlt; obtain ⟨y0, y1, y2, y3⟩ := HL6.out m hml; have hbl : b < w6.heap.size := World.block_lt_of_cell? w6 _ x0; have HF2 : Hid True := trivial; clear HB)
                      | (go_at_call 60; refine (HK.out _).mono ?_; rintro e w5 ⟨rfl, HB⟩; have HL5 : Hid (Lie w5 b o l) := HL4.out.drawn.below HB; have HB5 : Hid (Below w.heap.size w w5) := (Below.drew HB4.out).trans (HB.mono HB4.out.size); obtain ⟨x0, x1, x2, x3⟩ := HL5.out (j + 1) hlt; obtain ⟨y0, y1, y2, y3⟩ := HL5.out m hml; have hbl : b < w5.heap.size := World.block_lt_of_cell? w5 _ x0; have HF1 : Hid True := trivial; clear HB)
                      | (go_at_call 59; have := HF2; refine (HVm.out _).mono ?_; rintro e w7 ⟨rfl, rfl⟩)
                      | (go_at_call 59; refine (HVk.out _).mono ?_; rintro e w7 ⟨rfl, rfl⟩))
                    go_wp2_with fail
                    go_roundw
                    case rel => exact ⟨j + 1 + 1, by omega, by go_num, congrArg (Value.int .i64) HU2.out.symm, congrArg (Value.int .i64) HDD.out.symm, HB6.out⟩
                    case measure => simp [intOf]; omega
                  · have HU2 : Hid _ := HU1.out.2 hle
                    have hlei : decide ((vk : Int) ≤ (vm : Int)) = false := by simp; omega
                    clear HU1
                    go_region_held3 (fun w' => w'.cell? ⟨b, o + (j + 1) * 4, none⟩ = some (.int .i64 (atL l (j + 1)).kind) ∧ w'.cell? ⟨b, o + (j + 1) * 4 + 1, none⟩ = some (.string (ba (atL l (j + 1)).text)) ∧ w'.cell? ⟨b, o + (j + 1) * 4 + 2, none⟩ = some (.int .i64 (atL l (j + 1)).n) ∧ w'.cell? ⟨b, o + (j + 1) * 4 + 3, none⟩ = some (.int .i64 (atL l (j + 1)).pos) ∧ w'.cell? ⟨b, o + m * 4, none⟩ = some (.int .i64 (atL l m).kind) ∧ w'.cell? ⟨b, o + m * 4 + 1, none⟩ = some (.string (ba (atL l m).text)) ∧ w'.cell? ⟨b, o + m * 4 + 2, none⟩ = some (.int .i64 (atL l m).n) ∧ w'.cell? ⟨b, o + m * 4 + 3, none⟩ = some (.int .i64 (atL l m).pos)) (go_keep) (first
                      | (go_at_call 60; have := HF1; refine (HKm.out _).mono ?_; rintro e w6 ⟨rfl, HB⟩; have HL6 : Hid (Lie w6 b o l) := HL5.out.below HB; have HB6 : Hid (Below w.heap.size w w6) := HB5.out.trans (HB.mono HB5.out.size); obtain ⟨x0, x1, x2, x3⟩ := HL6.out (j + 1) hlt; obtain ⟨y0, y1, y2, y3⟩ := HL6.out m hml; have hbl : b < w6.heap.size := World.block_lt_of_cell? w6 _ x0; have HF2 : Hid True := trivial; clear HB)
                      | (go_at_call 60; refine (HK.out _).mono ?_; rintro e w5 ⟨rfl, HB⟩; have HL5 : Hid (Lie w5 b o l) := HL4.out.drawn.below HB; have HB5 : Hid (Below w.heap.size w w5) := (Below.drew HB4.out).trans (HB.mono HB4.out.size); obtain ⟨x0, x1, x2, x3⟩ := HL5.out (j + 1) hlt; obtain ⟨y0, y1, y2, y3⟩ := HL5.out m hml; have hbl : b < w5.heap.size := World.block_lt_of_cell? w5 _ x0; have HF1 : Hid True := trivial; clear HB)
                      | (go_at_call 59; have := HF2; refine (HVm.out _).mono ?_; rintro e w7 ⟨rfl, rfl⟩)
                      | (go_at_call 59; refine (HVk.out _).mono ?_; rintro e w7 ⟨rfl, rfl⟩))
                    go_wp2_with fail
                    go_roundw
                    case rel => exact ⟨j + 1 + 1, by omega, by go_num, congrArg (Value.int .i64) HU2.out.symm, congrArg (Value.int .i64) HDD.out.symm, HB6.out⟩
                    case measure => simp [intOf]; omega
              · have hp1i : (((atL l j).kind : Int) != 1) = true := by simp; omega
                by_cases hp2 : (atL l j).kind = 2
                · have HEND : Hid (endW (atL l j) = true) := by rw [HW.out b3 rfl, hp2]; rfl
                  have hp2i : (((atL l j).kind : Int) != 2) = false := by simp; omega
                  clear hp1 hp2 HI3 HW
                  go_wp2_with (first
                    | (go_at_call 60; refine (HK.out _).mono ?_; rintro e w3 ⟨rfl, HB⟩; have HL3 : Hid (Lie w3 b o l) := HL2.out.below HB; have HB3 : Hid (Below w.heap.size w w3) := HB2.out.trans (HB.mono HB2.out.size); obtain ⟨x0, x1, x2, x3⟩ := HL3.out j hj; have hbl : b < w3.heap.size := World.block_lt_of_cell? w3 _ x0; have HD3 : Hid True := trivial; clear HB)
                    | (go_at_call 58; have := HD1; refine (HI2.out _).mono ?_; rintro e w2 ⟨rfl, HB⟩; have HL2 : Hid (Lie w2 b o l) := HL1.out.below HB; have HB2 : Hid (Below w.heap.size w w2) := HB1.out.trans (HB.mono HB1.out.size); obtain ⟨x0, x1, x2, x3⟩ := HL2.out (j + 1) hlt; have hbl : b < w2.heap.size := World.block_lt_of_cell? w2 _ x0; have HD2 : Hid True := trivial; clear HB)
                    | (go_at_call 58; refine (HI1.out _).mono ?_; rintro e w1 ⟨rfl, HB⟩; have HL1 : Hid (Lie w1 b o l) := HL0.out.below HB; have HB1 : Hid (Below w.heap.size w w1) := HR.out.trans (HB.mono HR.out.size); obtain ⟨x0, x1, x2, x3⟩ := HL1.out (j + 1) hlt; have hbl : b < w1.heap.size := World.block_lt_of_cell? w1 _ x0; have HD1 : Hid True := trivial; clear HB))
                  obtain ⟨w4, hw4⟩ : ∃ w4, w4 = w3.alloc (.cells #[.int .i64 (atL l j).kind, .string (ba (atL l j).text), .int .i64 (atL l j).n, .int .i64 (atL l j).pos] 86) := ⟨_, rfl⟩
                  rw [← hw4]
                  have HL4 : Hid (Lie w4 b o l) := by rw [hw4]; exact HL3.out.below ((Below.refl _ _).alloc (Nat.le_refl _) _)
                  have HB4 : Hid (Below w.heap.size w w4) := by rw [hw4]; exact HB3.out.alloc HB3.out.size _
                  clear hw4
                  obtain ⟨x0, x1, x2, x3⟩ := HL4.out (j + 1) hlt
                  have hbl : b < w4.heap.size := World.block_lt_of_cell? w4 _ x0
                  cases hbe : (goG l (j + 1)).best with
                  | none =>
                    have hz1 : z = -1 := by rw [← hz, hbe]; rfl
                    have hz2 : decide (z < 0) = true := by rw [hz1]; rfl
                    have HZ : Hid (bestI (goG l (j + 1 + 1)).best = ((j + 1 : Nat) : Int)) := HT0.out (d + 1) HDD.out hD hK (by rw [HEN.out]; exact HEND.out) hbe
                    subst hz1
                    go_region
                    go_wp2_with fail
                    go_roundw
                    case rel => exact ⟨j + 1 + 1, by omega, by go_num, congrArg (Value.int .i64) HZ.out.symm, congrArg (Value.int .i64) HDD.out.symm, Below.drew HB4.out⟩
                    case measure => simp [intOf]; omega
                  | some ml =>
                    have hz1 : z = (ml.1 : Int) := by rw [← hz, hbe]; rfl
                    subst hz1
                    obtain ⟨hmk, hmv⟩ := HG.out.best ml hbe
                    have HU1 : Hid _ := HU.out (d + 1) HDD.out hD hK (by rw [HEN.out]; exact HEND.out) ml hbe
                    generalize hml1 : ml.1 = m at *
                    have hml : m < l.length := by omega
                    obtain ⟨y0, y1, y2, y3⟩ := HL4.out m hml
                    have hmz : decide ((m : Int) < 0) = false := by simp
                    have HKm : Hid (∀ w, Calls Try.prog 60 #[.agg #[.int .i64 (atL l m).kind, .string (ba (atL l m).text), .int .i64 (atL l m).n, .int .i64 (atL l m).pos]] w fun e w' => e = .returned (.int .i64 (kindW (atL l m))) ∧ Below w.heap.size w w') := kind_as (HOK.out m hml) rfl
                    have HVm : Hid (∀ w, Calls Try.prog 59 #[.int .i64 (kindW (atL l m))] w fun e w' => e = .returned (.int .i64 (levW (atL l m))) ∧ w' = w) := level_as rfl
                    have HVk : Hid (∀ w, Calls Try.prog 59 #[.int .i64 (kindW (atL l (j + 1)))] w fun e w' => e = .returned (.int .i64 (levW (atL l (j + 1)))) ∧ w' = w) := level_as rfl
                    clear hmv hbe hz
                    generalize levW (atL l m) = vm at *
                    generalize levW (atL l (j + 1)) = vk at *
                    generalize kindW (atL l m) = km at *
                    by_cases hle : vk ≤ vm
                    · have HU2 : Hid _ := HU1.out.1 hle
                      have hlei : decide ((vk : Int) ≤ (vm : Int)) = true := by simp; omega
                      clear HU1
                      go_region_held3 (fun w' => w'.cell? ⟨b, o + (j + 1) * 4, none⟩ = some (.int .i64 (atL l (j + 1)).kind) ∧ w'.cell? ⟨b, o + (j + 1) * 4 + 1, none⟩ = some (.string (ba (atL l (j + 1)).text)) ∧ w'.cell? ⟨b, o + (j + 1) * 4 + 2, none⟩ = some (.int .i64 (atL l (j + 1)).n) ∧ w'.cell? ⟨b, o + (j + 1) * 4 + 3, none⟩ = some (.int .i64 (atL l (j + 1)).pos) ∧ w'.cell? ⟨b, o + m * 4, none⟩ = some (.int .i64 (atL l m).kind) ∧ w'.cell? ⟨b, o + m * 4 + 1, none⟩ = some (.string (ba (atL l m).text)) ∧ w'.cell? ⟨b, o + m * 4 + 2, none⟩ = some (.int .i64 (atL l m).n) ∧ w'.cell? ⟨b, o + m * 4 + 3, none⟩ = some (.int .i64 (atL l m).pos)) (go_keep) (first
                        | (go_at_call 60; have := HF1; refine (HKm.out _).mono ?_; rintro e w6 ⟨rfl, HB⟩; have HL6 : Hid (Lie w6 b o l) := HL5.out.below HB; have HB6 : Hid (Below w.heap.size w w6) := HB5.out.trans (HB.mono HB5.out.size); obtain ⟨x0, x1, x2, x3⟩ := HL6.out (j + 1) hlt; obtain ⟨y0, y1, y2, y3⟩ := HL6.out m hml; have hbl : b < w6.heap.size := World.block_lt_of_cell? w6 _ x0; have HF2 : Hid True := trivial; clear HB)
                        | (go_at_call 60; refine (HK.out _).mono ?_; rintro e w5 ⟨rfl, HB⟩; have HL5 : Hid (Lie w5 b o l) := HL4.out.drawn.below HB; have HB5 : Hid (Below w.heap.size w w5) := (Below.drew HB4.out).trans (HB.mono HB4.out.size); obtain ⟨x0, x1, x2, x3⟩ := HL5.out (j + 1) hlt; obtain ⟨y0, y1, y2, y3⟩ := HL5.out m hml; have hbl : b < w5.heap.size := World.block_lt_of_cell? w5 _ x0; have HF1 : Hid True := trivial; clear HB)
                        | (go_at_call 59; have := HF2; refine (HVm.out _).mono ?_; rintro e w7 ⟨rfl, rfl⟩)
                        | (go_at_call 59; refine (HVk.out _).mono ?_; rintro e w7 ⟨rfl, rfl⟩))
                      go_wp2_with fail
                      go_roundw
                      case rel => exact ⟨j + 1 + 1, by omega, by go_num, congrArg (Value.int .i64) HU2.out.symm, congrArg (Value.int .i64) HDD.out.symm, HB6.out⟩
                      case measure => simp [intOf]; omega
                    · have HU2 : Hid _ := HU1.out.2 hle
                      have hlei : decide ((vk : Int) ≤ (vm : Int)) = false := by simp; omega
                      clear HU1
                      go_region_held3 (fun w' => w'.cell? ⟨b, o + (j + 1) * 4, none⟩ = some (.int .i64 (atL l (j + 1)).kind) ∧ w'.cell? ⟨b, o + (j + 1) * 4 + 1, none⟩ = some (.string (ba (atL l (j + 1)).text)) ∧ w'.cell? ⟨b, o + (j + 1) * 4 + 2, none⟩ = some (.int .i64 (atL l (j + 1)).n) ∧ w'.cell? ⟨b, o + (j + 1) * 4 + 3, none⟩ = some (.int .i64 (atL l (j + 1)).pos) ∧ w'.cell? ⟨b, o + m * 4, none⟩ = some (.int .i64 (atL l m).kind) ∧ w'.cell? ⟨b, o + m * 4 + 1, none⟩ = some (.string (ba (atL l m).text)) ∧ w'.cell? ⟨b, o + m * 4 + 2, none⟩ = some (.int .i64 (atL l m).n) ∧ w'.cell? ⟨b, o + m * 4 + 3, none⟩ = some (.int .i64 (atL l m).pos)) (go_keep) (first
                        | (go_at_call 60; have := HF1; refine (HKm.out _).mono ?_; rintro e w6 ⟨rfl, HB⟩; have HL6 : Hid (Lie w6 b o l) := HL5.out.below HB; have HB6 : Hid (Below w.heap.size w w6) := HB5.out.trans (HB.mono HB5.out.size); obtain ⟨x0, x1, x2, x3⟩ := HL6.out (j + 1) hlt; obtain ⟨y0, y1, y2, y3⟩ := HL6.out m hml; have hbl : b < w6.heap.size := World.block_lt_of_cell? w6 _ x0; have HF2 : Hid True := trivial; clear HB)
                        | (go_at_call 60; refine (HK.out _).mono ?_; rintro e w5 ⟨rfl, HB⟩; have HL5 : Hid (Lie w5 b o l) := HL4.out.drawn.below HB; have HB5 : Hid (Below w.heap.size w w5) := (Below.drew HB4.out).trans (HB.mono HB4.out.size); obtain ⟨x0, x1, x2, x3⟩ := HL5.out (j + 1) hlt; obtain ⟨y0, y1, y2, y3⟩ := HL5.out m hml; have hbl : b < w5.heap.size := World.block_lt_of_cell? w5 _ x0; have HF1 : Hid True := trivial; clear HB)
                        | (go_at_call 59; have := HF2; refine (HVm.out _).mono ?_; rintro e w7 ⟨rfl, rfl⟩)
                        | (go_at_call 59; refine (HVk.out _).mono ?_; rintro e w7 ⟨rfl, rfl⟩))
                      go_wp2_with fail
                      go_roundw
                      case rel => exact ⟨j + 1 + 1, by omega, by go_num, congrArg (Value.int .i64) HU2.out.symm, congrArg (Value.int .i64) HDD.out.symm, HB6.out⟩
                      case measure => simp [intOf]; omega
                · have hp2i : (((atL l j).kind : Int) != 2) = true := by simp; omega
                  have HEND : Hid (endW (atL l j) = b3) := by rw [HW.out b3 rfl, decide_eq_false hp1, decide_eq_false hp2]; rfl
                  clear hp1 hp2 HW
                  cases b3 with
                  | true =>
                    go_wp2_with (first
                      | (go_at_call 58; have := HD3; refine (HI3.out _).mono ?_; rintro e w4 ⟨rfl, HB⟩; have HL4 : Hid (Lie w4 b o l) := (HL3.out.below ((Below.refl _ _).alloc (Nat.le_refl _) _)).below HB; have HB4 : Hid (Below w.heap.size w w4) := (HB3.out.alloc HB3.out.size _).trans (HB.mono (by rw [size_alloc]; exact Nat.le_succ_of_le HB3.out.size)); obtain ⟨x0, x1, x2, x3⟩ := HL4.out (j + 1) hlt; have hbl : b < w4.heap.size := World.block_lt_of_cell? w4 _ x0; have HD4 : Hid True := trivial; clear HB)
                      | (go_at_call 60; refine (HK.out _).mono ?_; rintro e w3 ⟨rfl, HB⟩; have HL3 : Hid (Lie w3 b o l) := HL2.out.below HB; have HB3 : Hid (Below w.heap.size w w3) := HB2.out.trans (HB.mono HB2.out.size); obtain ⟨x0, x1, x2, x3⟩ := HL3.out j hj; have hbl : b < w3.heap.size := World.block_lt_of_cell? w3 _ x0; have HD3 : Hid True := trivial; clear HB)
                      | (go_at_call 58; have := HD1; refine (HI2.out _).mono ?_; rintro e w2 ⟨rfl, HB⟩; have HL2 : Hid (Lie w2 b o l) := HL1.out.below HB; have HB2 : Hid (Below w.heap.size w w2) := HB1.out.trans (HB.mono HB1.out.size); obtain ⟨x0, x1, x2, x3⟩ := HL2.out (j + 1) hlt; have hbl : b < w2.heap.size := World.block_lt_of_cell? w2 _ x0; have HD2 : Hid True := trivial; clear HB)
                      | (go_at_call 58; refine (HI1.out _).mono ?_; rintro e w1 ⟨rfl, HB⟩; have HL1 : Hid (Lie w1 b o l) := HL0.out.below HB; have HB1 : Hid (Below w.heap.size w w1) := HR.out.trans (HB.mono HR.out.size); obtain ⟨x0, x1, x2, x3⟩ := HL1.out (j + 1) hlt; have hbl : b < w1.heap.size := World.block_lt_of_cell? w1 _ x0; have HD1 : Hid True := trivial; clear HB))
                    cases hbe : (goG l (j + 1)).best with
                    | none =>
                      have hz1 : z = -1 := by rw [← hz, hbe]; rfl
                      have hz2 : decide (z < 0) = true := by rw [hz1]; rfl
                      have HZ : Hid (bestI (goG l (j + 1 + 1)).best = ((j + 1 : Nat) : Int)) := HT0.out (d + 1) HDD.out hD hK (by rw [HEN.out]; exact HEND.out) hbe
                      subst hz1
                      go_region
                      go_wp2_with fail
                      go_roundw
                      case rel => exact ⟨j + 1 + 1, by omega, by go_num, congrArg (Value.int .i64) HZ.out.symm, congrArg (Value.int .i64) HDD.out.symm, Below.drew HB4.out⟩
                      case measure => simp [intOf]; omega
                    | some ml =>
                      have hz1 : z = (ml.1 : Int) := by rw [← hz, hbe]; rfl
                      subst hz1
                      obtain ⟨hmk, hmv⟩ := HG.out.best ml hbe
                      have HU1 : Hid _ := HU.out (d + 1) HDD.out hD hK (by rw [HEN.out]; exact HEND.out) ml hbe
                      generalize hml1 : ml.1 = m at *
                      have hml : m < l.length := by omega
                      obtain ⟨y0, y1, y2, y3⟩ := HL4.out m hml
                      have hmz : decide ((m : Int) < 0) = false := by simp
                      have HKm : Hid (∀ w, Calls Try.prog 60 #[.agg #[.int .i64 (atL l m).kind, .string (ba (atL l m).text), .int .i64 (atL l m).n, .int .i64 (atL l m).pos]] w fun e w' => e = .returned (.int .i64 (kindW (atL l m))) ∧ Below w.heap.size w w') := kind_as (HOK.out m hml) rfl
                      have HVm : Hid (∀ w, Calls Try.prog 59 #[.int .i64 (kindW (atL l m))] w fun e w' => e = .returned (.int .i64 (levW (atL l m))) ∧ w' = w) := level_as rfl
                      have HVk : Hid (∀ w, Calls Try.prog 59 #[.int .i64 (kindW (atL l (j + 1)))] w fun e w' => e = .returned (.int .i64 (levW (atL l (j + 1)))) ∧ w' = w) := level_as rfl
                      clear hmv hbe hz
                      generalize levW (atL l m) = vm at *
                      generalize levW (atL l (j + 1)) = vk at *
                      generalize kindW (atL l m) = km at *
                      by_cases hle : vk ≤ vm
                      · have HU2 : Hid _ := HU1.out.1 hle
                        have hlei : decide ((vk : Int) ≤ (vm : Int)) = true := by simp; omega
                        clear HU1
                        go_region_held3 (fun w' => w'.cell? ⟨b, o + (j + 1) * 4, none⟩ = some (.int .i64 (atL l (j + 1)).kind) ∧ w'.cell? ⟨b, o + (j + 1) * 4 + 1, none⟩ = some (.string (ba (atL l (j + 1)).text)) ∧ w'.cell? ⟨b, o + (j + 1) * 4 + 2, none⟩ = some (.int .i64 (atL l (j + 1)).n) ∧ w'.cell? ⟨b, o + (j + 1) * 4 + 3, none⟩ = some (.int .i64 (atL l (j + 1)).pos) ∧ w'.cell? ⟨b, o + m * 4, none⟩ = some (.int .i64 (atL l m).kind) ∧ w'.cell? ⟨b, o + m * 4 + 1, none⟩ = some (.string (ba (atL l m).text)) ∧ w'.cell? ⟨b, o + m * 4 + 2, none⟩ = some (.int .i64 (atL l m).n) ∧ w'.cell? ⟨b, o + m * 4 + 3, none⟩ = some (.int .i64 (atL l m).pos)) (go_keep) (first
                          | (go_at_call 60; have := HF1; refine (HKm.out _).mono ?_; rintro e w6 ⟨rfl, HB⟩; have HL6 : Hid (Lie w6 b o l) := HL5.out.below HB; have HB6 : Hid (Below w.heap.size w w6) := HB5.out.trans (HB.mono HB5.out.size); obtain ⟨x0, x1, x2, x3⟩ := HL6.out (j + 1) hlt; obtain ⟨y0, y1, y2, y3⟩ := HL6.out m hml; have hbl : b < w6.heap.size := World.block_lt_of_cell? w6 _ x0; have HF2 : Hid True := trivial; clear HB)
                          | (go_at_call 60; refine (HK.out _).mono ?_; rintro e w5 ⟨rfl, HB⟩; have HL5 : Hid (Lie w5 b o l) := HL4.out.drawn.below HB; have HB5 : Hid (Below w.heap.size w w5) := (Below.drew HB4.out).trans (HB.mono HB4.out.size); obtain ⟨x0, x1, x2, x3⟩ := HL5.out (j + 1) hlt; obtain ⟨y0, y1, y2, y3⟩ := HL5.out m hml; have hbl : b < w5.heap.size := World.block_lt_of_cell? w5 _ x0; have HF1 : Hid True := trivial; clear HB)
                          | (go_at_call 59; have := HF2; refine (HVm.out _).mono ?_; rintro e w7 ⟨rfl, rfl⟩)
                          | (go_at_call 59; refine (HVk.out _).mono ?_; rintro e w7 ⟨rfl, rfl⟩))
                        go_wp2_with fail
                        go_roundw
                        case rel => exact ⟨j + 1 + 1, by omega, by go_num, congrArg (Value.int .i64) HU2.out.symm, congrArg (Value.int .i64) HDD.out.symm, HB6.out⟩
                        case measure => simp [intOf]; omega
                      · have HU2 : Hid _ := HU1.out.2 hle
                        have hlei : decide ((vk : Int) ≤ (vm : Int)) = false := by simp; omega
                        clear HU1
                        go_region_held3 (fun w' => w'.cell? ⟨b, o + (j + 1) * 4, none⟩ = some (.int .i64 (atL l (j + 1)).kind) ∧ w'.cell? ⟨b, o + (j + 1) * 4 + 1, none⟩ = some (.string (ba (atL l (j + 1)).text)) ∧ w'.cell? ⟨b, o + (j + 1) * 4 + 2, none⟩ = some (.int .i64 (atL l (j + 1)).n) ∧ w'.cell? ⟨b, o + (j + 1) * 4 + 3, none⟩ = some (.int .i64 (atL l (j + 1)).pos) ∧ w'.cell? ⟨b, o + m * 4, none⟩ = some (.int .i64 (atL l m).kind) ∧ w'.cell? ⟨b, o + m * 4 + 1, none⟩ = some (.string (ba (atL l m).text)) ∧ w'.cell? ⟨b, o + m * 4 + 2, none⟩ = some (.int .i64 (atL l m).n) ∧ w'.cell? ⟨b, o + m * 4 + 3, none⟩ = some (.int .i64 (atL l m).pos)) (go_keep) (first
                          | (go_at_call 60; have := HF1; refine (HKm.out _).mono ?_; rintro e w6 ⟨rfl, HB⟩; have HL6 : Hid (Lie w6 b o l) := HL5.out.below HB; have HB6 : Hid (Below w.heap.size w w6) := HB5.out.trans (HB.mono HB5.out.size); obtain ⟨x0, x1, x2, x3⟩ := HL6.out (j + 1) hlt; obtain ⟨y0, y1, y2, y3⟩ := HL6.out m hml; have hbl : b < w6.heap.size := World.block_lt_of_cell? w6 _ x0; have HF2 : Hid True := trivial; clear HB)
                          | (go_at_call 60; refine (HK.out _).mono ?_; rintro e w5 ⟨rfl, HB⟩; have HL5 : Hid (Lie w5 b o l) := HL4.out.drawn.below HB; have HB5 : Hid (Below w.heap.size w w5) := (Below.drew HB4.out).trans (HB.mono HB4.out.size); obtain ⟨x0, x1, x2, x3⟩ := HL5.out (j + 1) hlt; obtain ⟨y0, y1, y2, y3⟩ := HL5.out m hml; have hbl : b < w5.heap.size := World.block_lt_of_cell? w5 _ x0; have HF1 : Hid True := trivial; clear HB)
                          | (go_at_call 59; have := HF2; refine (HVm.out _).mono ?_; rintro e w7 ⟨rfl, rfl⟩)
                          | (go_at_call 59; refine (HVk.out _).mono ?_; rintro e w7 ⟨rfl, rfl⟩))
                        go_wp2_with fail
                        go_roundw
                        case rel => exact ⟨j + 1 + 1, by omega, by go_num, congrArg (Value.int .i64) HU2.out.symm, congrArg (Value.int .i64) HDD.out.symm, HB6.out⟩
                        case measure => simp [intOf]; omega
                  | false =>
                    have HE0 : Hid (bestI (goG l (j + 1 + 1)).best = z) := HT.out (d + 1) HDD.out (.inr (.inr (by rw [HEN.out]; exact HEND.out)))
                    go_wp2_with (first
                      | (go_at_call 58; have := HD3; refine (HI3.out _).mono ?_; rintro e w4 ⟨rfl, HB⟩; have HL4 : Hid (Lie w4 b o l) := (HL3.out.below ((Below.refl _ _).alloc (Nat.le_refl _) _)).below HB; have HB4 : Hid (Below w.heap.size w w4) := (HB3.out.alloc HB3.out.size _).trans (HB.mono (by rw [size_alloc]; exact Nat.le_succ_of_le HB3.out.size)); obtain ⟨x0, x1, x2, x3⟩ := HL4.out (j + 1) hlt; have hbl : b < w4.heap.size := World.block_lt_of_cell? w4 _ x0; have HD4 : Hid True := trivial; clear HB)
                      | (go_at_call 60; refine (HK.out _).mono ?_; rintro e w3 ⟨rfl, HB⟩; have HL3 : Hid (Lie w3 b o l) := HL2.out.below HB; have HB3 : Hid (Below w.heap.size w w3) := HB2.out.trans (HB.mono HB2.out.size); obtain ⟨x0, x1, x2, x3⟩ := HL3.out j hj; have hbl : b < w3.heap.size := World.block_lt_of_cell? w3 _ x0; have HD3 : Hid True := trivial; clear HB)
                      | (go_at_call 58; have := HD1; refine (HI2.out _).mono ?_; rintro e w2 ⟨rfl, HB⟩; have HL2 : Hid (Lie w2 b o l) := HL1.out.below HB; have HB2 : Hid (Below w.heap.size w w2) := HB1.out.trans (HB.mono HB1.out.size); obtain ⟨x0, x1, x2, x3⟩ := HL2.out (j + 1) hlt; have hbl : b < w2.heap.size := World.block_lt_of_cell? w2 _ x0; have HD2 : Hid True := trivial; clear HB)
                      | (go_at_call 58; refine (HI1.out _).mono ?_; rintro e w1 ⟨rfl, HB⟩; have HL1 : Hid (Lie w1 b o l) := HL0.out.below HB; have HB1 : Hid (Below w.heap.size w w1) := HR.out.trans (HB.mono HR.out.size); obtain ⟨x0, x1, x2, x3⟩ := HL1.out (j + 1) hlt; have hbl : b < w1.heap.size := World.block_lt_of_cell? w1 _ x0; have HD1 : Hid True := trivial; clear HB))
                    go_roundw
                    case rel => exact ⟨j + 1 + 1, by omega, by go_num, congrArg (Value.int .i64) HE0.out.symm, congrArg (Value.int .i64) HDD.out.symm, HB4.out⟩
                    case measure => simp [intOf]; omega
      | false =>
        clear hb12
        cases b2 with
        | true =>
          replace HDD : Hid ((goG l (k + 1)).deep = d - 1) := by have t := HDD.out; simp at t; exact t
          by_cases hD : 0 < (d - 1)
          · have HE0 : Hid (bestI (goG l (k + 1)).best = z) := HT.out (d - 1) HDD.out (.inl hD)
            go_wp2_with (first
              | (go_at_call 58; have := HD1; refine (HI2.out _).mono ?_; rintro e w2 ⟨rfl, HB⟩; have HL2 : Hid (Lie w2 b o l) := HL1.out.below HB; have HB2 : Hid (Below w.heap.size w w2) := HB1.out.trans (HB.mono HB1.out.size); obtain ⟨x0, x1, x2, x3⟩ := HL2.out k hlt; have hbl : b < w2.heap.size := World.block_lt_of_cell? w2 _ x0; have HD2 : Hid True := trivial; clear HB)
              | (go_at_call 58; refine (HI1.out _).mono ?_; rintro e w1 ⟨rfl, HB⟩; have HL1 : Hid (Lie w1 b o l) := HL0.out.below HB; have HB1 : Hid (Below w.heap.size w w1) := HR.out.trans (HB.mono HR.out.size); obtain ⟨x0, x1, x2, x3⟩ := HL1.out k hlt; have hbl : b < w1.heap.size := World.block_lt_of_cell? w1 _ x0; have HD1 : Hid True := trivial; clear HB))
            go_roundw
            case rel => exact ⟨k + 1, by omega, by go_num, congrArg (Value.int .i64) HE0.out.symm, congrArg (Value.int .i64) HDD.out.symm, HB2.out⟩
            case measure => simp [intOf]; omega
          · by_cases hk0 : k = 0
            · subst hk0
              have HE0 : Hid (bestI (goG l (0 + 1)).best = z) := HT.out (d - 1) HDD.out (.inr (.inr (HG.out.en0 rfl)))
              simp only [Nat.zero_mul, Nat.add_zero] at x0 x1 x2 x3
              go_wp2_with (first
                | (go_at_call 58; have := HD1; refine (HI2.out _).mono ?_; rintro e w2 ⟨rfl, HB⟩; have HL2 : Hid (Lie w2 b o l) := HL1.out.below HB; have HB2 : Hid (Below w.heap.size w w2) := HB1.out.trans (HB.mono HB1.out.size); obtain ⟨x0, x1, x2, x3⟩ := HL2.out 0 hlt; simp only [Nat.zero_mul, Nat.add_zero] at x0 x1 x2 x3; have hbl : b < w2.heap.size := World.block_lt_of_cell? w2 _ x0; have HD2 : Hid True := trivial; clear HB)
                | (go_at_call 58; refine (HI1.out _).mono ?_; rintro e w1 ⟨rfl, HB⟩; have HL1 : Hid (Lie w1 b o l) := HL0.out.below HB; have HB1 : Hid (Below w.heap.size w w1) := HR.out.trans (HB.mono HR.out.size); obtain ⟨x0, x1, x2, x3⟩ := HL1.out 0 hlt; simp only [Nat.zero_mul, Nat.add_zero] at x0 x1 x2 x3; have hbl : b < w1.heap.size := World.block_lt_of_cell? w1 _ x0; have HD1 : Hid True := trivial; clear HB))
              go_roundw
              case rel => exact ⟨0 + 1, by omega, by go_num, congrArg (Value.int .i64) HE0.out.symm, congrArg (Value.int .i64) HDD.out.symm, HB2.out⟩
              case measure => simp [intOf]; omega
            · have hk0i : ((k : Int) == 0) = false := by simp; exact hk0
              by_cases hK : kindW (atL l k) = 0
              · have HK : Hid (∀ w, Calls Try.prog 60 #[.agg #[.int .i64 (atL l k).kind, .string (ba (atL l k).text), .int .i64 (atL l k).n, .int .i64 (atL l k).pos]] w fun e w' => e = .returned (.int .i64 0) ∧ Below w.heap.size w w') := kind_as (HOK.out k hlt) (by rw [hK]; rfl)
                have HE0 : Hid (bestI (goG l (k + 1)).best = z) := HT.out (d - 1) HDD.out (.inr (.inl hK))
                go_wp2_with (first
                  | (go_at_call 60; refine (HK.out _).mono ?_; rintro e w3 ⟨rfl, HB⟩; have HB3 : Hid (Below w.heap.size w w3) := HB2.out.trans (HB.mono HB2.out.size); clear HB)
                  | (go_at_call 58; have := HD1; refine (HI2.out _).mono ?_; rintro e w2 ⟨rfl, HB⟩; have HL2 : Hid (Lie w2 b o l) := HL1.out.below HB; have HB2 : Hid (Below w.heap.size w w2) := HB1.out.trans (HB.mono HB1.out.size); obtain ⟨x0, x1, x2, x3⟩ := HL2.out k hlt; have hbl : b < w2.heap.size := World.block_lt_of_cell? w2 _ x0; have HD2 : Hid True := trivial; clear HB)
                  | (go_at_call 58; refine (HI1.out _).mono ?_; rintro e w1 ⟨rfl, HB⟩; have HL1 : Hid (Lie w1 b o l) := HL0.out.below HB; have HB1 : Hid (Below w.heap.size w w1) := HR.out.trans (HB.mono HR.out.size); obtain ⟨x0, x1, x2, x3⟩ := HL1.out k hlt; have hbl : b < w1.heap.size := World.block_lt_of_cell? w1 _ x0; have HD1 : Hid True := trivial; clear HB))
                go_roundw
                case rel => exact ⟨k + 1, by omega, by go_num, congrArg (Value.int .i64) HE0.out.symm, congrArg (Value.int .i64) HDD.out.symm, HB3.out⟩
                case measure => simp [intOf]; omega
              · have HK : Hid (∀ w, Calls Try.prog 60 #[.agg #[.int .i64 (atL l k).kind, .string (ba (atL l k).text), .int .i64 (atL l k).n, .int .i64 (atL l k).pos]] w fun e w' => e = .returned (.int .i64 (kindW (atL l k))) ∧ Below w.heap.size w w') := kind_as (HOK.out k hlt) rfl
                have hKi : (((kindW (atL l k) : Nat) : Int) == 0) = false := by simp; exact hK
                obtain ⟨j, rfl⟩ : ∃ j, k = j + 1 := ⟨k - 1, by omega⟩
                have hj : j < l.length := by omega
                clear hk0 hk0i
                have hk0i : ((j : Int) + 1 == 0) = false := by simp; omega
                have HEN : Hid ((goG l (j + 1)).en = endW (atL l j)) := HG.out.en j rfl
                have HI3 : Hid (∀ w, Calls Try.prog 58 #[.agg #[.int .i64 (atL l j).kind, .string (ba (atL l j).text), .int .i64 (atL l j).n, .int .i64 (atL l j).pos], .string ⟨#[41]⟩] w fun e w' => e = .returned (.bool (isW (atL l j) 41)) ∧ Below w.heap.size w w') := is_as rfl
                have HW : Hid (∀ q, isW (atL l j) 41 = q → endW (atL l j) = (decide ((atL l j).kind = 1) || decide ((atL l j).kind = 2) || q)) := fun q h => by unfold endW; rw [h]
                generalize hb3 : isW (atL l j) 41 = b3 at *
                by_cases hp1 : (atL l j).kind = 1
                · have HEND : Hid (endW (atL l j) = true) := by rw [HW.out b3 rfl, hp1]; rfl
                  have hp1i : (((atL l j).kind : Int) != 1) = false := by simp; omega
                  clear hp1 HI3 HW
                  go_wp2_with (first
                    | (go_at_call 60; refine (HK.out _).mono ?_; rintro e w3 ⟨rfl, HB⟩; have HL3 : Hid (Lie w3 b o l) := HL2.out.below HB; have HB3 : Hid (Below w.heap.size w w3) := HB2.out.trans (HB.mono HB2.out.size); obtain ⟨x0, x1, x2, x3⟩ := HL3.out j hj; have hbl : b < w3.heap.size := World.block_lt_of_cell? w3 _ x0; have HD3 : Hid True := trivial; clear HB)
                    | (go_at_call 58; have := HD1; refine (HI2.out _).mono ?_; rintro e w2 ⟨rfl, HB⟩; have HL2 : Hid (Lie w2 b o l) := HL1.out.below HB; have HB2 : Hid (Below w.heap.size w w2) := HB1.out.trans (HB.mono HB1.out.size); obtain ⟨x0, x1, x2, x3⟩ := HL2.out (j + 1) hlt; have hbl : b < w2.heap.size := World.block_lt_of_cell? w2 _ x0; have HD2 : Hid True := trivial; clear HB)
                    | (go_at_call 58; refine (HI1.out _).mono ?_; rintro e w1 ⟨rfl, HB⟩; have HL1 : Hid (Lie w1 b o l) := HL0.out.below HB; have HB1 : Hid (Below w.heap.size w w1) := HR.out.trans (HB.mono HR.out.size); obtain ⟨x0, x1, x2, x3⟩ := HL1.out (j + 1) hlt; have hbl : b < w1.heap.size := World.block_lt_of_cell? w1 _ x0; have HD1 : Hid True := trivial; clear HB))
                  obtain ⟨w4, hw4⟩ : ∃ w4, w4 = w3.alloc (.cells #[.int .i64 (atL l j).kind, .string (ba (atL l j).text), .int .i64 (atL l j).n, .int .i64 (atL l j).pos] 86) := ⟨_, rfl⟩
                  rw [← hw4]
                  have HL4 : Hid (Lie w4 b o l) := by rw [hw4]; exact HL3.out.below ((Below.refl _ _).alloc (Nat.le_refl _) _)
                  have HB4 : Hid (Below w.heap.size w w4) := by rw [hw4]; exact HB3.out.alloc HB3.out.size _
                  clear hw4
                  obtain ⟨x0, x1, x2, x3⟩ := HL4.out (j + 1) hlt
                  have hbl : b < w4.heap.size := World.block_lt_of_cell? w4 _ x0
                  cases hbe : (goG l (j + 1)).best with
                  | none =>
                    have hz1 : z = -1 := by rw [← hz, hbe]; rfl
                    have hz2 : decide (z < 0) = true := by rw [hz1]; rfl
                    have HZ : Hid (bestI (goG l (j + 1 + 1)).best = ((j + 1 : Nat) : Int)) := HT0.out (d - 1) HDD.out hD hK (by rw [HEN.out]; exact HEND.out) hbe
                    subst hz1
                    go_region
                    go_wp2_with fail
                    go_roundw
                    case rel => exact ⟨j + 1 + 1, by omega, by go_num, congrArg (Value.int .i64) HZ.out.symm, congrArg (Value.int .i64) HDD.out.symm, Below.drew HB4.out⟩
                    case measure => simp [intOf]; omega
                  | some ml =>
                    have hz1 : z = (ml.1 : Int) := by rw [← hz, hbe]; rfl
                    subst hz1
                    obtain ⟨hmk, hmv⟩ := HG.out.best ml hbe
                    have HU1 : Hid _ := HU.out (d - 1) HDD.out hD hK (by rw [HEN.out]; exact HEND.out) ml hbe
                    generalize hml1 : ml.1 = m at *
                    have hml : m < l.length := by omega
                    obtain ⟨y0, y1, y2, y3⟩ := HL4.out m hml
                    have hmz : decide ((m : Int) < 0) = false := by simp
                    have HKm : Hid (∀ w, Calls Try.prog 60 #[.agg #[.int .i64 (atL l m).kind, .string (ba (atL l m).text), .int .i64 (atL l m).n, .int .i64 (atL l m).pos]] w fun e w' => e = .returned (.int .i64 (kindW (atL l m))) ∧ Below w.heap.size w w') := kind_as (HOK.out m hml) rfl
                    have HVm : Hid (∀ w, Calls Try.prog 59 #[.int .i64 (kindW (atL l m))] w fun e w' => e = .returned (.int .i64 (levW (atL l m))) ∧ w' = w) := level_as rfl
                    have HVk : Hid (∀ w, Calls Try.prog 59 #[.int .i64 (kindW (atL l (j + 1)))] w fun e w' => e = .returned (.int .i64 (levW (atL l (j + 1)))) ∧ w' = w) := level_as rfl
                    clear hmv hbe hz
                    generalize levW (atL l m) = vm at *
                    generalize levW (atL l (j + 1)) = vk at *
                    generalize kindW (atL l m) = km at *
                    by_cases hle : vk ≤ vm
                    · have HU2 : Hid _ := HU1.out.1 hle
                      have hlei : decide ((vk : Int) ≤ (vm : Int)) = true := by simp; omega
                      clear HU1
                      go_region_held3 (fun w' => w'.cell? ⟨b, o + (j + 1) * 4, none⟩ = some (.int .i64 (atL l (j + 1)).kind) ∧ w'.cell? ⟨b, o + (j + 1) * 4 + 1, none⟩ = some (.string (ba (atL l (j + 1)).text)) ∧ w'.cell? ⟨b, o + (j + 1) * 4 + 2, none⟩ = some (.int .i64 (atL l (j + 1)).n) ∧ w'.cell? ⟨b, o + (j + 1) * 4 + 3, none⟩ = some (.int .i64 (atL l (j + 1)).pos) ∧ w'.cell? ⟨b, o + m * 4, none⟩ = some (.int .i64 (atL l m).kind) ∧ w'.cell? ⟨b, o + m * 4 + 1, none⟩ = some (.string (ba (atL l m).text)) ∧ w'.cell? ⟨b, o + m * 4 + 2, none⟩ = some (.int .i64 (atL l m).n) ∧ w'.cell? ⟨b, o + m * 4 + 3, none⟩ = some (.int .i64 (atL l m).pos)) (go_keep) (first
                        | (go_at_call 60; have := HF1; refine (HKm.out _).mono ?_; rintro e w6 ⟨rfl, HB⟩; have HL6 : Hid (Lie w6 b o l) := HL5.out.below HB; have HB6 : Hid (Below w.heap.size w w6) := HB5.out.trans (HB.mono HB5.out.size); obtain ⟨x0, x1, x2, x3⟩ := HL6.out (j + 1) hlt; obtain ⟨y0, y1, y2, y3⟩ := HL6.out m hml; have hbl : b < w6.heap.size := World.block_lt_of_cell? w6 _ x0; have HF2 : Hid True := trivial; clear HB)
                        | (go_at_call 60; refine (HK.out _).mono ?_; rintro e w5 ⟨rfl, HB⟩; have HL5 : Hid (Lie w5 b o l) := HL4.out.drawn.below HB; have HB5 : Hid (Below w.heap.size w w5) := (Below.drew HB4.out).trans (HB.mono HB4.out.size); obtain ⟨x0, x1, x2, x3⟩ := HL5.out (j + 1) hlt; obtain ⟨y0, y1, y2, y3⟩ := HL5.out m hml; have hbl : b < w5.heap.size := World.block_lt_of_cell? w5 _ x0; have HF1 : Hid True := trivial; clear HB)
                        | (go_at_call 59; have := HF2; refine (HVm.out _).mono ?_; rintro e w7 ⟨rfl, rfl⟩)
                        | (go_at_call 59; refine (HVk.out _).mono ?_; rintro e w7 ⟨rfl, rfl⟩))
                      go_wp2_with fail
                      go_roundw
                      case rel => exact ⟨j + 1 + 1, by omega, by go_num, congrArg (Value.int .i64) HU2.out.symm, congrArg (Value.int .i64) HDD.out.symm, HB6.out⟩
                      case measure => simp [intOf]; omega
                    · have HU2 : Hid _ := HU1.out.2 hle
                      have hlei : decide ((vk : Int) ≤ (vm : Int)) = false := by simp; omega
                      clear HU1
                      go_region_held3 (fun w' => w'.cell? ⟨b, o + (j + 1) * 4, none⟩ = some (.int .i64 (atL l (j + 1)).kind) ∧ w'.cell? ⟨b, o + (j + 1) * 4 + 1, none⟩ = some (.string (ba (atL l (j + 1)).text)) ∧ w'.cell? ⟨b, o + (j + 1) * 4 + 2, none⟩ = some (.int .i64 (atL l (j + 1)).n) ∧ w'.cell? ⟨b, o + (j + 1) * 4 + 3, none⟩ = some (.int .i64 (atL l (j + 1)).pos) ∧ w'.cell? ⟨b, o + m * 4, none⟩ = some (.int .i64 (atL l m).kind) ∧ w'.cell? ⟨b, o + m * 4 + 1, none⟩ = some (.string (ba (atL l m).text)) ∧ w'.cell? ⟨b, o + m * 4 + 2, none⟩ = some (.int .i64 (atL l m).n) ∧ w'.cell? ⟨b, o + m * 4 + 3, none⟩ = some (.int .i64 (atL l m).pos)) (go_keep) (first
                        | (go_at_call 60; have := HF1; refine (HKm.out _).mono ?_; rintro e w6 ⟨rfl, HB⟩; have HL6 : Hid (Lie w6 b o l) := HL5.out.below HB; have HB6 : Hid (Below w.heap.size w w6) := HB5.out.trans (HB.mono HB5.out.size); obtain ⟨x0, x1, x2, x3⟩ := HL6.out (j + 1) hlt; obtain ⟨y0, y1, y2, y3⟩ := HL6.out m hml; have hbl : b < w6.heap.size := World.block_lt_of_cell? w6 _ x0; have HF2 : Hid True := trivial; clear HB)
                        | (go_at_call 60; refine (HK.out _).mono ?_; rintro e w5 ⟨rfl, HB⟩; have HL5 : Hid (Lie w5 b o l) := HL4.out.drawn.below HB; have HB5 : Hid (Below w.heap.size w w5) := (Below.drew HB4.out).trans (HB.mono HB4.out.size); obtain ⟨x0, x1, x2, x3⟩ := HL5.out (j + 1) hlt; obtain ⟨y0, y1, y2, y3⟩ := HL5.out m hml; have hbl : b < w5.heap.size := World.block_lt_of_cell? w5 _ x0; have HF1 : Hid True := trivial; clear HB)
                        | (go_at_call 59; have := HF2; refine (HVm.out _).mono ?_; rintro e w7 ⟨rfl, rfl⟩)
                        | (go_at_call 59; refine (HVk.out _).mono ?_; rintro e w7 ⟨rfl, rfl⟩))
                      go_wp2_with fail
                      go_roundw
                      case rel => exact ⟨j + 1 + 1, by omega, by go_num, congrArg (Value.int .i64) HU2.out.symm, congrArg (Value.int .i64) HDD.out.symm, HB6.out⟩
                      case measure => simp [intOf]; omega
                · have hp1i : (((atL l j).kind : Int) != 1) = true := by simp; omega
                  by_cases hp2 : (atL l j).kind = 2
                  · have HEND : Hid (endW (atL l j) = true) := by rw [HW.out b3 rfl, hp2]; rfl
                    have hp2i : (((atL l j).kind : Int) != 2) = false := by simp; omega
                    clear hp1 hp2 HI3 HW
                    go_wp2_with (first
                      | (go_at_call 60; refine (HK.out _).mono ?_; rintro e w3 ⟨rfl, HB⟩; have HL3 : Hid (Lie w3 b o l) := HL2.out.below HB; have HB3 : Hid (Below w.heap.size w w3) := HB2.out.trans (HB.mono HB2.out.size); obtain ⟨x0, x1, x2, x3⟩ := HL3.out j hj; have hbl : b < w3.heap.size := World.block_lt_of_cell? w3 _ x0; have HD3 : Hid True := trivial; clear HB)
                      | (go_at_call 58; have := HD1; refine (HI2.out _).mono ?_; rintro e w2 ⟨rfl, HB⟩; have HL2 : Hid (Lie w2 b o l) := HL1.out.below HB; have HB2 : Hid (Below w.heap.size w w2) := HB1.out.trans (HB.mono HB1.out.size); obtain ⟨x0, x1, x2, x3⟩ := HL2.out (j + 1) hlt; have hbl : b < w2.heap.size := World.block_lt_of_cell? w2 _ x0; have HD2 : Hid True := trivial; clear HB)
                      | (go_at_call 58; refine (HI1.out _).mono ?_; rintro e w1 ⟨rfl, HB⟩; have HL1 : Hid (Lie w1 b o l) := HL0.out.below HB; have HB1 : Hid (Below w.heap.size w w1) := HR.out.trans (HB.mono HR.out.size); obtain ⟨x0, x1, x2, x3⟩ := HL1.out (j + 1) hlt; have hbl : b < w1.heap.size := World.block_lt_of_cell? w1 _ x0; have HD1 : Hid True := trivial; clear HB))
                    obtain ⟨w4, hw4⟩ : ∃ w4, w4 = w3.alloc (.cells #[.int .i64 (atL l j).kind, .string (ba (atL l j).text), .int .i64 (atL l j).n, .int .i64 (atL l j).pos] 86) := ⟨_, rfl⟩
                    rw [← hw4]
                    have HL4 : Hid (Lie w4 b o l) := by rw [hw4]; exact HL3.out.below ((Below.refl _ _).alloc (Nat.le_refl _) _)
                    have HB4 : Hid (Below w.heap.size w w4) := by rw [hw4]; exact HB3.out.alloc HB3.out.size _
                    clear hw4
                    obtain ⟨x0, x1, x2, x3⟩ := HL4.out (j + 1) hlt
                    have hbl : b < w4.heap.size := World.block_lt_of_cell? w4 _ x0
                    cases hbe : (goG l (j + 1)).best with
                    | none =>
                      have hz1 : z = -1 := by rw [← hz, hbe]; rfl
                      have hz2 : decide (z < 0) = true := by rw [hz1]; rfl
                      have HZ : Hid (bestI (goG l (j + 1 + 1)).best = ((j + 1 : Nat) : Int)) := HT0.out (d - 1) HDD.out hD hK (by rw [HEN.out]; exact HEND.out) hbe
                      subst hz1
                      go_region
                      go_wp2_with fail
                      go_roundw
                      case rel => exact ⟨j + 1 + 1, by omega, by go_num, congrArg (Value.int .i64) HZ.out.symm, congrArg (Value.int .i64) HDD.out.symm, Below.drew HB4.out⟩
                      case measure => simp [intOf]; omega
                    | some ml =>
                      have hz1 : z = (ml.1 : Int) := by rw [← hz, hbe]; rfl
                      subst hz1
                      obtain ⟨hmk, hmv⟩ := HG.out.best ml hbe
                      have HU1 : Hid _ := HU.out (d - 1) HDD.out hD hK (by rw [HEN.out]; exact HEND.out) ml hbe
                      generalize hml1 : ml.1 = m at *
                      have hml : m < l.length := by omega
                      obtain ⟨y0, y1, y2, y3⟩ := HL4.out m hml
                      have hmz : decide ((m : Int) < 0) = false := by simp
                      have HKm : Hid (∀ w, Calls Try.prog 60 #[.agg #[.int .i64 (atL l m).kind, .string (ba (atL l m).text), .int .i64 (atL l m).n, .int .i64 (atL l m).pos]] w fun e w' => e = .returned (.int .i64 (kindW (atL l m))) ∧ Below w.heap.size w w') := kind_as (HOK.out m hml) rfl
                      have HVm : Hid (∀ w, Calls Try.prog 59 #[.int .i64 (kindW (atL l m))] w fun e w' => e = .returned (.int .i64 (levW (atL l m))) ∧ w' = w) := level_as rfl
                      have HVk : Hid (∀ w, Calls Try.prog 59 #[.int .i64 (kindW (atL l (j + 1)))] w fun e w' => e = .returned (.int .i64 (levW (atL l (j + 1)))) ∧ w' = w) := level_as rfl
                      clear hmv hbe hz
                      generalize levW (atL l m) = vm at *
                      generalize levW (atL l (j + 1)) = vk at *
                      generalize kindW (atL l m) = km at *
                      by_cases hle : vk ≤ vm
                      · have HU2 : Hid _ := HU1.out.1 hle
                        have hlei : decide ((vk : Int) ≤ (vm : Int)) = true := by simp; omega
                        clear HU1
                        go_region_held3 (fun w' => w'.cell? ⟨b, o + (j + 1) * 4, none⟩ = some (.int .i64 (atL l (j + 1)).kind) ∧ w'.cell? ⟨b, o + (j + 1) * 4 + 1, none⟩ = some (.string (ba (atL l (j + 1)).text)) ∧ w'.cell? ⟨b, o + (j + 1) * 4 + 2, none⟩ = some (.int .i64 (atL l (j + 1)).n) ∧ w'.cell? ⟨b, o + (j + 1) * 4 + 3, none⟩ = some (.int .i64 (atL l (j + 1)).pos) ∧ w'.cell? ⟨b, o + m * 4, none⟩ = some (.int .i64 (atL l m).kind) ∧ w'.cell? ⟨b, o + m * 4 + 1, none⟩ = some (.string (ba (atL l m).text)) ∧ w'.cell? ⟨b, o + m * 4 + 2, none⟩ = some (.int .i64 (atL l m).n) ∧ w'.cell? ⟨b, o + m * 4 + 3, none⟩ = some (.int .i64 (atL l m).pos)) (go_keep) (first
                          | (go_at_call 60; have := HF1; refine (HKm.out _).mono ?_; rintro e w6 ⟨rfl, HB⟩; have HL6 : Hid (Lie w6 b o l) := HL5.out.below HB; have HB6 : Hid (Below w.heap.size w w6) := HB5.out.trans (HB.mono HB5.out.size); obtain ⟨x0, x1, x2, x3⟩ := HL6.out (j + 1) hlt; obtain ⟨y0, y1, y2, y3⟩ := HL6.out m hml; have hbl : b < w6.heap.size := World.block_lt_of_cell? w6 _ x0; have HF2 : Hid True := trivial; clear HB)
                          | (go_at_call 60; refine (HK.out _).mono ?_; rintro e w5 ⟨rfl, HB⟩; have HL5 : Hid (Lie w5 b o l) := HL4.out.drawn.below HB; have HB5 : Hid (Below w.heap.size w w5) := (Below.drew HB4.out).trans (HB.mono HB4.out.size); obtain ⟨x0, x1, x2, x3⟩ := HL5.out (j + 1) hlt; obtain ⟨y0, y1, y2, y3⟩ := HL5.out m hml; have hbl : b < w5.heap.size := World.block_lt_of_cell? w5 _ x0; have HF1 : Hid True := trivial; clear HB)
                          | (go_at_call 59; have := HF2; refine (HVm.out _).mono ?_; rintro e w7 ⟨rfl, rfl⟩)
                          | (go_at_call 59; refine (HVk.out _).mono ?_; rintro e w7 ⟨rfl, rfl⟩))
                        go_wp2_with fail
                        go_roundw
                        case rel => exact ⟨j + 1 + 1, by omega, by go_num, congrArg (Value.int .i64) HU2.out.symm, congrArg (Value.int .i64) HDD.out.symm, HB6.out⟩
                        case measure => simp [intOf]; omega
                      · have HU2 : Hid _ := HU1.out.2 hle
                        have hlei : decide ((vk : Int) ≤ (vm : Int)) = false := by simp; omega
                        clear HU1
                        go_region_held3 (fun w' => w'.cell? ⟨b, o + (j + 1) * 4, none⟩ = some (.int .i64 (atL l (j + 1)).kind) ∧ w'.cell? ⟨b, o + (j + 1) * 4 + 1, none⟩ = some (.string (ba (atL l (j + 1)).text)) ∧ w'.cell? ⟨b, o + (j + 1) * 4 + 2, none⟩ = some (.int .i64 (atL l (j + 1)).n) ∧ w'.cell? ⟨b, o + (j + 1) * 4 + 3, none⟩ = some (.int .i64 (atL l (j + 1)).pos) ∧ w'.cell? ⟨b, o + m * 4, none⟩ = some (.int .i64 (atL l m).kind) ∧ w'.cell? ⟨b, o + m * 4 + 1, none⟩ = some (.string (ba (atL l m).text)) ∧ w'.cell? ⟨b, o + m * 4 + 2, none⟩ = some (.int .i64 (atL l m).n) ∧ w'.cell? ⟨b, o + m * 4 + 3, none⟩ = some (.int .i64 (atL l m).pos)) (go_keep) (first
                          | (go_at_call 60; have := HF1; refine (HKm.out _).mono ?_; rintro e w6 ⟨rfl, HB⟩; have HL6 : Hid (Lie w6 b o l) := HL5.out.below HB; have HB6 : Hid (Below w.heap.size w w6) := HB5.out.trans (HB.mono HB5.out.size); obtain ⟨x0, x1, x2, x3⟩ := HL6.out (j + 1) hlt; obtain ⟨y0, y1, y2, y3⟩ := HL6.out m hml; have hbl : b < w6.heap.size := World.block_lt_of_cell? w6 _ x0; have HF2 : Hid True := trivial; clear HB)
                          | (go_at_call 60; refine (HK.out _).mono ?_; rintro e w5 ⟨rfl, HB⟩; have HL5 : Hid (Lie w5 b o l) := HL4.out.drawn.below HB; have HB5 : Hid (Below w.heap.size w w5) := (Below.drew HB4.out).trans (HB.mono HB4.out.size); obtain ⟨x0, x1, x2, x3⟩ := HL5.out (j + 1) hlt; obtain ⟨y0, y1, y2, y3⟩ := HL5.out m hml; have hbl : b < w5.heap.size := World.block_lt_of_cell? w5 _ x0; have HF1 : Hid True := trivial; clear HB)
                          | (go_at_call 59; have := HF2; refine (HVm.out _).mono ?_; rintro e w7 ⟨rfl, rfl⟩)
                          | (go_at_call 59; refine (HVk.out _).mono ?_; rintro e w7 ⟨rfl, rfl⟩))
                        go_wp2_with fail
                        go_roundw
                        case rel => exact ⟨j + 1 + 1, by omega, by go_num, congrArg (Value.int .i64) HU2.out.symm, congrArg (Value.int .i64) HDD.out.symm, HB6.out⟩
                        case measure => simp [intOf]; omega
                  · have hp2i : (((atL l j).kind : Int) != 2) = true := by simp; omega
                    have HEND : Hid (endW (atL l j) = b3) := by rw [HW.out b3 rfl, decide_eq_false hp1, decide_eq_false hp2]; rfl
                    clear hp1 hp2 HW
                    cases b3 with
                    | true =>
                      go_wp2_with (first
                        | (go_at_call 58; have := HD3; refine (HI3.out _).mono ?_; rintro e w4 ⟨rfl, HB⟩; have HL4 : Hid (Lie w4 b o l) := (HL3.out.below ((Below.refl _ _).alloc (Nat.le_refl _) _)).below HB; have HB4 : Hid (Below w.heap.size w w4) := (HB3.out.alloc HB3.out.size _).trans (HB.mono (by rw [size_alloc]; exact Nat.le_succ_of_le HB3.out.size)); obtain ⟨x0, x1, x2, x3⟩ := HL4.out (j + 1) hlt; have hbl : b < w4.heap.size := World.block_lt_of_cell? w4 _ x0; have HD4 : Hid True := trivial; clear HB)
                        | (go_at_call 60; refine (HK.out _).mono ?_; rintro e w3 ⟨rfl, HB⟩; have HL3 : Hid (Lie w3 b o l) := HL2.out.below HB; have HB3 : Hid (Below w.heap.size w w3) := HB2.out.trans (HB.mono HB2.out.size); obtain ⟨x0, x1, x2, x3⟩ := HL3.out j hj; have hbl : b < w3.heap.size := World.block_lt_of_cell? w3 _ x0; have HD3 : Hid True := trivial; clear HB)
                        | (go_at_call 58; have := HD1; refine (HI2.out _).mono ?_; rintro e w2 ⟨rfl, HB⟩; have HL2 : Hid (Lie w2 b o l) := HL1.out.below HB; have HB2 : Hid (Below w.heap.size w w2) := HB1.out.trans (HB.mono HB1.out.size); obtain ⟨x0, x1, x2, x3⟩ := HL2.out (j + 1) hlt; have hbl : b < w2.heap.size := World.block_lt_of_cell? w2 _ x0; have HD2 : Hid True := trivial; clear HB)
                        | (go_at_call 58; refine (HI1.out _).mono ?_; rintro e w1 ⟨rfl, HB⟩; have HL1 : Hid (Lie w1 b o l) := HL0.out.below HB; have HB1 : Hid (Below w.heap.size w w1) := HR.out.trans (HB.mono HR.out.size); obtain ⟨x0, x1, x2, x3⟩ := HL1.out (j + 1) hlt; have hbl : b < w1.heap.size := World.block_lt_of_cell? w1 _ x0; have HD1 : Hid True := trivial; clear HB))
                      cases hbe : (goG l (j + 1)).best with
                      | none =>
                        have hz1 : z = -1 := by rw [← hz, hbe]; rfl
                        have hz2 : decide (z < 0) = true := by rw [hz1]; rfl
                        have HZ : Hid (bestI (goG l (j + 1 + 1)).best = ((j + 1 : Nat) : Int)) := HT0.out (d - 1) HDD.out hD hK (by rw [HEN.out]; exact HEND.out) hbe
                        subst hz1
                        go_region
                        go_wp2_with fail
                        go_roundw
                        case rel => exact ⟨j + 1 + 1, by omega, by go_num, congrArg (Value.int .i64) HZ.out.symm, congrArg (Value.int .i64) HDD.out.symm, Below.drew HB4.out⟩
                        case measure => simp [intOf]; omega
                      | some ml =>
                        have hz1 : z = (ml.1 : Int) := by rw [← hz, hbe]; rfl
                        subst hz1
                        obtain ⟨hmk, hmv⟩ := HG.out.best ml hbe
                        have HU1 : Hid _ := HU.out (d - 1) HDD.out hD hK (by rw [HEN.out]; exact HEND.out) ml hbe
                        generalize hml1 : ml.1 = m at *
                        have hml : m < l.length := by omega
                        obtain ⟨y0, y1, y2, y3⟩ := HL4.out m hml
                        have hmz : decide ((m : Int) < 0) = false := by simp
                        have HKm : Hid (∀ w, Calls Try.prog 60 #[.agg #[.int .i64 (atL l m).kind, .string (ba (atL l m).text), .int .i64 (atL l m).n, .int .i64 (atL l m).pos]] w fun e w' => e = .returned (.int .i64 (kindW (atL l m))) ∧ Below w.heap.size w w') := kind_as (HOK.out m hml) rfl
                        have HVm : Hid (∀ w, Calls Try.prog 59 #[.int .i64 (kindW (atL l m))] w fun e w' => e = .returned (.int .i64 (levW (atL l m))) ∧ w' = w) := level_as rfl
                        have HVk : Hid (∀ w, Calls Try.prog 59 #[.int .i64 (kindW (atL l (j + 1)))] w fun e w' => e = .returned (.int .i64 (levW (atL l (j + 1)))) ∧ w' = w) := level_as rfl
                        clear hmv hbe hz
                        generalize levW (atL l m) = vm at *
                        generalize levW (atL l (j + 1)) = vk at *
                        generalize kindW (atL l m) = km at *
                        by_cases hle : vk ≤ vm
                        · have HU2 : Hid _ := HU1.out.1 hle
                          have hlei : decide ((vk : Int) ≤ (vm : Int)) = true := by simp; omega
                          clear HU1
                          go_region_held3 (fun w' => w'.cell? ⟨b, o + (j + 1) * 4, none⟩ = some (.int .i64 (atL l (j + 1)).kind) ∧ w'.cell? ⟨b, o + (j + 1) * 4 + 1, none⟩ = some (.string (ba (atL l (j + 1)).text)) ∧ w'.cell? ⟨b, o + (j + 1) * 4 + 2, none⟩ = some (.int .i64 (atL l (j + 1)).n) ∧ w'.cell? ⟨b, o + (j + 1) * 4 + 3, none⟩ = some (.int .i64 (atL l (j + 1)).pos) ∧ w'.cell? ⟨b, o + m * 4, none⟩ = some (.int .i64 (atL l m).kind) ∧ w'.cell? ⟨b, o + m * 4 + 1, none⟩ = some (.string (ba (atL l m).text)) ∧ w'.cell? ⟨b, o + m * 4 + 2, none⟩ = some (.int .i64 (atL l m).n) ∧ w'.cell? ⟨b, o + m * 4 + 3, none⟩ = some (.int .i64 (atL l m).pos)) (go_keep) (first
                            | (go_at_call 60; have := HF1; refine (HKm.out _).mono ?_; rintro e w6 ⟨rfl, HB⟩; have HL6 : Hid (Lie w6 b o l) := HL5.out.below HB; have HB6 : Hid (Below w.heap.size w w6) := HB5.out.trans (HB.mono HB5.out.size); obtain ⟨x0, x1, x2, x3⟩ := HL6.out (j + 1) hlt; obtain ⟨y0, y1, y2, y3⟩ := HL6.out m hml; have hbl : b < w6.heap.size := World.block_lt_of_cell? w6 _ x0; have HF2 : Hid True := trivial; clear HB)
                            | (go_at_call 60; refine (HK.out _).mono ?_; rintro e w5 ⟨rfl, HB⟩; have HL5 : Hid (Lie w5 b o l) := HL4.out.drawn.below HB; have HB5 : Hid (Below w.heap.size w w5) := (Below.drew HB4.out).trans (HB.mono HB4.out.size); obtain ⟨x0, x1, x2, x3⟩ := HL5.out (j + 1) hlt; obtain ⟨y0, y1, y2, y3⟩ := HL5.out m hml; have hbl : b < w5.heap.size := World.block_lt_of_cell? w5 _ x0; have HF1 : Hid True := trivial; clear HB)
                            | (go_at_call 59; have := HF2; refine (HVm.out _).mono ?_; rintro e w7 ⟨rfl, rfl⟩)
                            | (go_at_call 59; refine (HVk.out _).mono ?_; rintro e w7 ⟨rfl, rfl⟩))
                          go_wp2_with fail
                          go_roundw
                          case rel => exact ⟨j + 1 + 1, by omega, by go_num, congrArg (Value.int .i64) HU2.out.symm, congrArg (Value.int .i64) HDD.out.symm, HB6.out⟩
                          case measure => simp [intOf]; omega
                        · have HU2 : Hid _ := HU1.out.2 hle
                          have hlei : decide ((vk : Int) ≤ (vm : Int)) = false := by simp; omega
                          clear HU1
                          go_region_held3 (fun w' => w'.cell? ⟨b, o + (j + 1) * 4, none⟩ = some (.int .i64 (atL l (j + 1)).kind) ∧ w'.cell? ⟨b, o + (j + 1) * 4 + 1, none⟩ = some (.string (ba (atL l (j + 1)).text)) ∧ w'.cell? ⟨b, o + (j + 1) * 4 + 2, none⟩ = some (.int .i64 (atL l (j + 1)).n) ∧ w'.cell? ⟨b, o + (j + 1) * 4 + 3, none⟩ = some (.int .i64 (atL l (j + 1)).pos) ∧ w'.cell? ⟨b, o + m * 4, none⟩ = some (.int .i64 (atL l m).kind) ∧ w'.cell? ⟨b, o + m * 4 + 1, none⟩ = some (.string (ba (atL l m).text)) ∧ w'.cell? ⟨b, o + m * 4 + 2, none⟩ = some (.int .i64 (atL l m).n) ∧ w'.cell? ⟨b, o + m * 4 + 3, none⟩ = some (.int .i64 (atL l m).pos)) (go_keep) (first
                            | (go_at_call 60; have := HF1; refine (HKm.out _).mono ?_; rintro e w6 ⟨rfl, HB⟩; have HL6 : Hid (Lie w6 b o l) := HL5.out.below HB; have HB6 : Hid (Below w.heap.size w w6) := HB5.out.trans (HB.mono HB5.out.size); obtain ⟨x0, x1, x2, x3⟩ := HL6.out (j + 1) hlt; obtain ⟨y0, y1, y2, y3⟩ := HL6.out m hml; have hbl : b < w6.heap.size := World.block_lt_of_cell? w6 _ x0; have HF2 : Hid True := trivial; clear HB)
                            | (go_at_call 60; refine (HK.out _).mono ?_; rintro e w5 ⟨rfl, HB⟩; have HL5 : Hid (Lie w5 b o l) := HL4.out.drawn.below HB; have HB5 : Hid (Below w.heap.size w w5) := (Below.drew HB4.out).trans (HB.mono HB4.out.size); obtain ⟨x0, x1, x2, x3⟩ := HL5.out (j + 1) hlt; obtain ⟨y0, y1, y2, y3⟩ := HL5.out m hml; have hbl : b < w5.heap.size := World.block_lt_of_cell? w5 _ x0; have HF1 : Hid True := trivial; clear HB)
                            | (go_at_call 59; have := HF2; refine (HVm.out _).mono ?_; rintro e w7 ⟨rfl, rfl⟩)
                            | (go_at_call 59; refine (HVk.out _).mono ?_; rintro e w7 ⟨rfl, rfl⟩))
                          go_wp2_with fail
                          go_roundw
                          case rel => exact ⟨j + 1 + 1, by omega, by go_num, congrArg (Value.int .i64) HU2.out.symm, congrArg (Value.int .i64) HDD.out.symm, HB6.out⟩
                          case measure => simp [intOf]; omega
                    | false =>
                      have HE0 : Hid (bestI (goG l (j + 1 + 1)).best = z) := HT.out (d - 1) HDD.out (.inr (.inr (by rw [HEN.out]; exact HEND.out)))
                      go_wp2_with (first
                        | (go_at_call 58; have := HD3; refine (HI3.out _).mono ?_; rintro e w4 ⟨rfl, HB⟩; have HL4 : Hid (Lie w4 b o l) := (HL3.out.below ((Below.refl _ _).alloc (Nat.le_refl _) _)).below HB; have HB4 : Hid (Below w.heap.size w w4) := (HB3.out.alloc HB3.out.size _).trans (HB.mono (by rw [size_alloc]; exact Nat.le_succ_of_le HB3.out.size)); obtain ⟨x0, x1, x2, x3⟩ := HL4.out (j + 1) hlt; have hbl : b < w4.heap.size := World.block_lt_of_cell? w4 _ x0; have HD4 : Hid True := trivial; clear HB)
                        | (go_at_call 60; refine (HK.out _).mono ?_; rintro e w3 ⟨rfl, HB⟩; have HL3 : Hid (Lie w3 b o l) := HL2.out.below HB; have HB3 : Hid (Below w.heap.size w w3) := HB2.out.trans (HB.mono HB2.out.size); obtain ⟨x0, x1, x2, x3⟩ := HL3.out j hj; have hbl : b < w3.heap.size := World.block_lt_of_cell? w3 _ x0; have HD3 : Hid True := trivial; clear HB)
                        | (go_at_call 58; have := HD1; refine (HI2.out _).mono ?_; rintro e w2 ⟨rfl, HB⟩; have HL2 : Hid (Lie w2 b o l) := HL1.out.below HB; have HB2 : Hid (Below w.heap.size w w2) := HB1.out.trans (HB.mono HB1.out.size); obtain ⟨x0, x1, x2, x3⟩ := HL2.out (j + 1) hlt; have hbl : b < w2.heap.size := World.block_lt_of_cell? w2 _ x0; have HD2 : Hid True := trivial; clear HB)
                        | (go_at_call 58; refine (HI1.out _).mono ?_; rintro e w1 ⟨rfl, HB⟩; have HL1 : Hid (Lie w1 b o l) := HL0.out.below HB; have HB1 : Hid (Below w.heap.size w w1) := HR.out.trans (HB.mono HR.out.size); obtain ⟨x0, x1, x2, x3⟩ := HL1.out (j + 1) hlt; have hbl : b < w1.heap.size := World.block_lt_of_cell? w1 _ x0; have HD1 : Hid True := trivial; clear HB))
                      go_roundw
                      case rel => exact ⟨j + 1 + 1, by omega, by go_num, congrArg (Value.int .i64) HE0.out.symm, congrArg (Value.int .i64) HDD.out.symm, HB4.out⟩
                      case measure => simp [intOf]; omega
        | false =>
          replace HDD : Hid ((goG l (k + 1)).deep = d) := by have t := HDD.out; simp at t; exact t
          by_cases hD : 0 < d
          · have HE0 : Hid (bestI (goG l (k + 1)).best = z) := HT.out d HDD.out (.inl hD)
            go_wp2_with (first
              | (go_at_call 58; have := HD1; refine (HI2.out _).mono ?_; rintro e w2 ⟨rfl, HB⟩; have HL2 : Hid (Lie w2 b o l) := HL1.out.below HB; have HB2 : Hid (Below w.heap.size w w2) := HB1.out.trans (HB.mono HB1.out.size); obtain ⟨x0, x1, x2, x3⟩ := HL2.out k hlt; have hbl : b < w2.heap.size := World.block_lt_of_cell? w2 _ x0; have HD2 : Hid True := trivial; clear HB)
              | (go_at_call 58; refine (HI1.out _).mono ?_; rintro e w1 ⟨rfl, HB⟩; have HL1 : Hid (Lie w1 b o l) := HL0.out.below HB; have HB1 : Hid (Below w.heap.size w w1) := HR.out.trans (HB.mono HR.out.size); obtain ⟨x0, x1, x2, x3⟩ := HL1.out k hlt; have hbl : b < w1.heap.size := World.block_lt_of_cell? w1 _ x0; have HD1 : Hid True := trivial; clear HB))
            go_roundw
            case rel => exact ⟨k + 1, by omega, by go_num, congrArg (Value.int .i64) HE0.out.symm, congrArg (Value.int .i64) HDD.out.symm, HB2.out⟩
            case measure => simp [intOf]; omega
          · by_cases hk0 : k = 0
            · subst hk0
              have HE0 : Hid (bestI (goG l (0 + 1)).best = z) := HT.out d HDD.out (.inr (.inr (HG.out.en0 rfl)))
              simp only [Nat.zero_mul, Nat.add_zero] at x0 x1 x2 x3
              go_wp2_with (first
                | (go_at_call 58; have := HD1; refine (HI2.out _).mono ?_; rintro e w2 ⟨rfl, HB⟩; have HL2 : Hid (Lie w2 b o l) := HL1.out.below HB; have HB2 : Hid (Below w.heap.size w w2) := HB1.out.trans (HB.mono HB1.out.size); obtain ⟨x0, x1, x2, x3⟩ := HL2.out 0 hlt; simp only [Nat.zero_mul, Nat.add_zero] at x0 x1 x2 x3; have hbl : b < w2.heap.size := World.block_lt_of_cell? w2 _ x0; have HD2 : Hid True := trivial; clear HB)
                | (go_at_call 58; refine (HI1.out _).mono ?_; rintro e w1 ⟨rfl, HB⟩; have HL1 : Hid (Lie w1 b o l) := HL0.out.below HB; have HB1 : Hid (Below w.heap.size w w1) := HR.out.trans (HB.mono HR.out.size); obtain ⟨x0, x1, x2, x3⟩ := HL1.out 0 hlt; simp only [Nat.zero_mul, Nat.add_zero] at x0 x1 x2 x3; have hbl : b < w1.heap.size := World.block_lt_of_cell? w1 _ x0; have HD1 : Hid True := trivial; clear HB))
              go_roundw
              case rel => exact ⟨0 + 1, by omega, by go_num, congrArg (Value.int .i64) HE0.out.symm, congrArg (Value.int .i64) HDD.out.symm, HB2.out⟩
              case measure => simp [intOf]; omega
            · have hk0i : ((k : Int) == 0) = false := by simp; exact hk0
              by_cases hK : kindW (atL l k) = 0
              · have HK : Hid (∀ w, Calls Try.prog 60 #[.agg #[.int .i64 (atL l k).kind, .string (ba (atL l k).text), .int .i64 (atL l k).n, .int .i64 (atL l k).pos]] w fun e w' => e = .returned (.int .i64 0) ∧ Below w.heap.size w w') := kind_as (HOK.out k hlt) (by rw [hK]; rfl)
                have HE0 : Hid (bestI (goG l (k + 1)).best = z) := HT.out d HDD.out (.inr (.inl hK))
                go_wp2_with (first
                  | (go_at_call 60; refine (HK.out _).mono ?_; rintro e w3 ⟨rfl, HB⟩; have HB3 : Hid (Below w.heap.size w w3) := HB2.out.trans (HB.mono HB2.out.size); clear HB)
                  | (go_at_call 58; have := HD1; refine (HI2.out _).mono ?_; rintro e w2 ⟨rfl, HB⟩; have HL2 : Hid (Lie w2 b o l) := HL1.out.below HB; have HB2 : Hid (Below w.heap.size w w2) := HB1.out.trans (HB.mono HB1.out.size); obtain ⟨x0, x1, x2, x3⟩ := HL2.out k hlt; have hbl : b < w2.heap.size := World.block_lt_of_cell? w2 _ x0; have HD2 : Hid True := trivial; clear HB)
                  | (go_at_call 58; refine (HI1.out _).mono ?_; rintro e w1 ⟨rfl, HB⟩; have HL1 : Hid (Lie w1 b o l) := HL0.out.below HB; have HB1 : Hid (Below w.heap.size w w1) := HR.out.trans (HB.mono HR.out.size); obtain ⟨x0, x1, x2, x3⟩ := HL1.out k hlt; have hbl : b < w1.heap.size := World.block_lt_of_cell? w1 _ x0; have HD1 : Hid True := trivial; clear HB))
                go_roundw
                case rel => exact ⟨k + 1, by omega, by go_num, congrArg (Value.int .i64) HE0.out.symm, congrArg (Value.int .i64) HDD.out.symm, HB3.out⟩
                case measure => simp [intOf]; omega
              · have HK : Hid (∀ w, Calls Try.prog 60 #[.agg #[.int .i64 (atL l k).kind, .string (ba (atL l k).text), .int .i64 (atL l k).n, .int .i64 (atL l k).pos]] w fun e w' => e = .returned (.int .i64 (kindW (atL l k))) ∧ Below w.heap.size w w') := kind_as (HOK.out k hlt) rfl
                have hKi : (((kindW (atL l k) : Nat) : Int) == 0) = false := by simp; exact hK
                obtain ⟨j, rfl⟩ : ∃ j, k = j + 1 := ⟨k - 1, by omega⟩
                have hj : j < l.length := by omega
                clear hk0 hk0i
                have hk0i : ((j : Int) + 1 == 0) = false := by simp; omega
                have HEN : Hid ((goG l (j + 1)).en = endW (atL l j)) := HG.out.en j rfl
                have HI3 : Hid (∀ w, Calls Try.prog 58 #[.agg #[.int .i64 (atL l j).kind, .string (ba (atL l j).text), .int .i64 (atL l j).n, .int .i64 (atL l j).pos], .string ⟨#[41]⟩] w fun e w' => e = .returned (.bool (isW (atL l j) 41)) ∧ Below w.heap.size w w') := is_as rfl
                have HW : Hid (∀ q, isW (atL l j) 41 = q → endW (atL l j) = (decide ((atL l j).kind = 1) || decide ((atL l j).kind = 2) || q)) := fun q h => by unfold endW; rw [h]
                generalize hb3 : isW (atL l j) 41 = b3 at *
                by_cases hp1 : (atL l j).kind = 1
                · have HEND : Hid (endW (atL l j) = true) := by rw [HW.out b3 rfl, hp1]; rfl
                  have hp1i : (((atL l j).kind : Int) != 1) = false := by simp; omega
                  clear hp1 HI3 HW
                  go_wp2_with (first
                    | (go_at_call 60; refine (HK.out _).mono ?_; rintro e w3 ⟨rfl, HB⟩; have HL3 : Hid (Lie w3 b o l) := HL2.out.below HB; have HB3 : Hid (Below w.heap.size w w3) := HB2.out.trans (HB.mono HB2.out.size); obtain ⟨x0, x1, x2, x3⟩ := HL3.out j hj; have hbl : b < w3.heap.size := World.block_lt_of_cell? w3 _ x0; have HD3 : Hid True := trivial; clear HB)
                    | (go_at_call 58; have := HD1; refine (HI2.out _).mono ?_; rintro e w2 ⟨rfl, HB⟩; have HL2 : Hid (Lie w2 b o l) := HL1.out.below HB; have HB2 : Hid (Below w.heap.size w w2) := HB1.out.trans (HB.mono HB1.out.size); obtain ⟨x0, x1, x2, x3⟩ := HL2.out (j + 1) hlt; have hbl : b < w2.heap.size := World.block_lt_of_cell? w2 _ x0; have HD2 : Hid True := trivial; clear HB)
                    | (go_at_call 58; refine (HI1.out _).mono ?_; rintro e w1 ⟨rfl, HB⟩; have HL1 : Hid (Lie w1 b o l) := HL0.out.below HB; have HB1 : Hid (Below w.heap.size w w1) := HR.out.trans (HB.mono HR.out.size); obtain ⟨x0, x1, x2, x3⟩ := HL1.out (j + 1) hlt; have hbl : b < w1.heap.size := World.block_lt_of_cell? w1 _ x0; have HD1 : Hid True := trivial; clear HB))
                  obtain ⟨w4, hw4⟩ : ∃ w4, w4 = w3.alloc (.cells #[.int .i64 (atL l j).kind, .string (ba (atL l j).text), .int .i64 (atL l j).n, .int .i64 (atL l j).pos] 86) := ⟨_, rfl⟩
                  rw [← hw4]
                  have HL4 : Hid (Lie w4 b o l) := by rw [hw4]; exact HL3.out.below ((Below.refl _ _).alloc (Nat.le_refl _) _)
                  have HB4 : Hid (Below w.heap.size w w4) := by rw [hw4]; exact HB3.out.alloc HB3.out.size _
                  clear hw4
                  obtain ⟨x0, x1, x2, x3⟩ := HL4.out (j + 1) hlt
                  have hbl : b < w4.heap.size := World.block_lt_of_cell? w4 _ x0
                  cases hbe : (goG l (j + 1)).best with
                  | none =>
                    have hz1 : z = -1 := by rw [← hz, hbe]; rfl
                    have hz2 : decide (z < 0) = true := by rw [hz1]; rfl
                    have HZ : Hid (bestI (goG l (j + 1 + 1)).best = ((j + 1 : Nat) : Int)) := HT0.out d HDD.out hD hK (by rw [HEN.out]; exact HEND.out) hbe
                    subst hz1
                    go_region
                    go_wp2_with fail
                    go_roundw
                    case rel => exact ⟨j + 1 + 1, by omega, by go_num, congrArg (Value.int .i64) HZ.out.symm, congrArg (Value.int .i64) HDD.out.symm, Below.drew HB4.out⟩
                    case measure => simp [intOf]; omega
                  | some ml =>
                    have hz1 : z = (ml.1 : Int) := by rw [← hz, hbe]; rfl
                    subst hz1
                    obtain ⟨hmk, hmv⟩ := HG.out.best ml hbe
                    have HU1 : Hid _ := HU.out d HDD.out hD hK (by rw [HEN.out]; exact HEND.out) ml hbe
                    generalize hml1 : ml.1 = m at *
                    have hml : m < l.length := by omega
                    obtain ⟨y0, y1, y2, y3⟩ := HL4.out m hml
                    have hmz : decide ((m : Int) < 0) = false := by simp
                    have HKm : Hid (∀ w, Calls Try.prog 60 #[.agg #[.int .i64 (atL l m).kind, .string (ba (atL l m).text), .int .i64 (atL l m).n, .int .i64 (atL l m).pos]] w fun e w' => e = .returned (.int .i64 (kindW (atL l m))) ∧ Below w.heap.size w w') := kind_as (HOK.out m hml) rfl
                    have HVm : Hid (∀ w, Calls Try.prog 59 #[.int .i64 (kindW (atL l m))] w fun e w' => e = .returned (.int .i64 (levW (atL l m))) ∧ w' = w) := level_as rfl
                    have HVk : Hid (∀ w, Calls Try.prog 59 #[.int .i64 (kindW (atL l (j + 1)))] w fun e w' => e = .returned (.int .i64 (levW (atL l (j + 1)))) ∧ w' = w) := level_as rfl
                    clear hmv hbe hz
                    generalize levW (atL l m) = vm at *
                    generalize levW (atL l (j + 1)) = vk at *
                    generalize kindW (atL l m) = km at *
                    by_cases hle : vk ≤ vm
                    · have HU2 : Hid _ := HU1.out.1 hle
                      have hlei : decide ((vk : Int) ≤ (vm : Int)) = true := by simp; omega
                      clear HU1
                      go_region_held3 (fun w' => w'.cell? ⟨b, o + (j + 1) * 4, none⟩ = some (.int .i64 (atL l (j + 1)).kind) ∧ w'.cell? ⟨b, o + (j + 1) * 4 + 1, none⟩ = some (.string (ba (atL l (j + 1)).text)) ∧ w'.cell? ⟨b, o + (j + 1) * 4 + 2, none⟩ = some (.int .i64 (atL l (j + 1)).n) ∧ w'.cell? ⟨b, o + (j + 1) * 4 + 3, none⟩ = some (.int .i64 (atL l (j + 1)).pos) ∧ w'.cell? ⟨b, o + m * 4, none⟩ = some (.int .i64 (atL l m).kind) ∧ w'.cell? ⟨b, o + m * 4 + 1, none⟩ = some (.string (ba (atL l m).text)) ∧ w'.cell? ⟨b, o + m * 4 + 2, none⟩ = some (.int .i64 (atL l m).n) ∧ w'.cell? ⟨b, o + m * 4 + 3, none⟩ = some (.int .i64 (atL l m).pos)) (go_keep) (first
                        | (go_at_call 60; have := HF1; refine (HKm.out _).mono ?_; rintro e w6 ⟨rfl, HB⟩; have HL6 : Hid (Lie w6 b o l) := HL5.out.below HB; have HB6 : Hid (Below w.heap.size w w6) := HB5.out.trans (HB.mono HB5.out.size); obtain ⟨x0, x1, x2, x3⟩ := HL6.out (j + 1) hlt; obtain ⟨y0, y1, y2, y3⟩ := HL6.out m hml; have hbl : b < w6.heap.size := World.block_lt_of_cell? w6 _ x0; have HF2 : Hid True := trivial; clear HB)
                        | (go_at_call 60; refine (HK.out _).mono ?_; rintro e w5 ⟨rfl, HB⟩; have HL5 : Hid (Lie w5 b o l) := HL4.out.drawn.below HB; have HB5 : Hid (Below w.heap.size w w5) := (Below.drew HB4.out).trans (HB.mono HB4.out.size); obtain ⟨x0, x1, x2, x3⟩ := HL5.out (j + 1) hlt; obtain ⟨y0, y1, y2, y3⟩ := HL5.out m hml; have hbl : b < w5.heap.size := World.block_lt_of_cell? w5 _ x0; have HF1 : Hid True := trivial; clear HB)
                        | (go_at_call 59; have := HF2; refine (HVm.out _).mono ?_; rintro e w7 ⟨rfl, rfl⟩)
                        | (go_at_call 59; refine (HVk.out _).mono ?_; rintro e w7 ⟨rfl, rfl⟩))
                      go_wp2_with fail
                      go_roundw
                      case rel => exact ⟨j + 1 + 1, by omega, by go_num, congrArg (Value.int .i64) HU2.out.symm, congrArg (Value.int .i64) HDD.out.symm, HB6.out⟩
                      case measure => simp [intOf]; omega
                    · have HU2 : Hid _ := HU1.out.2 hle
                      have hlei : decide ((vk : Int) ≤ (vm : Int)) = false := by simp; omega
                      clear HU1
                      go_region_held3 (fun w' => w'.cell? ⟨b, o + (j + 1) * 4, none⟩ = some (.int .i64 (atL l (j + 1)).kind) ∧ w'.cell? ⟨b, o + (j + 1) * 4 + 1, none⟩ = some (.string (ba (atL l (j + 1)).text)) ∧ w'.cell? ⟨b, o + (j + 1) * 4 + 2, none⟩ = some (.int .i64 (atL l (j + 1)).n) ∧ w'.cell? ⟨b, o + (j + 1) * 4 + 3, none⟩ = some (.int .i64 (atL l (j + 1)).pos) ∧ w'.cell? ⟨b, o + m * 4, none⟩ = some (.int .i64 (atL l m).kind) ∧ w'.cell? ⟨b, o + m * 4 + 1, none⟩ = some (.string (ba (atL l m).text)) ∧ w'.cell? ⟨b, o + m * 4 + 2, none⟩ = some (.int .i64 (atL l m).n) ∧ w'.cell? ⟨b, o + m * 4 + 3, none⟩ = some (.int .i64 (atL l m).pos)) (go_keep) (first
                        | (go_at_call 60; have := HF1; refine (HKm.out _).mono ?_; rintro e w6 ⟨rfl, HB⟩; have HL6 : Hid (Lie w6 b o l) := HL5.out.below HB; have HB6 : Hid (Below w.heap.size w w6) := HB5.out.trans (HB.mono HB5.out.size); obtain ⟨x0, x1, x2, x3⟩ := HL6.out (j + 1) hlt; obtain ⟨y0, y1, y2, y3⟩ := HL6.out m hml; have hbl : b < w6.heap.size := World.block_lt_of_cell? w6 _ x0; have HF2 : Hid True := trivial; clear HB)
                        | (go_at_call 60; refine (HK.out _).mono ?_; rintro e w5 ⟨rfl, HB⟩; have HL5 : Hid (Lie w5 b o l) := HL4.out.drawn.below HB; have HB5 : Hid (Below w.heap.size w w5) := (Below.drew HB4.out).trans (HB.mono HB4.out.size); obtain ⟨x0, x1, x2, x3⟩ := HL5.out (j + 1) hlt; obtain ⟨y0, y1, y2, y3⟩ := HL5.out m hml; have hbl : b < w5.heap.size := World.block_lt_of_cell? w5 _ x0; have HF1 : Hid True := trivial; clear HB)
                        | (go_at_call 59; have := HF2; refine (HVm.out _).mono ?_; rintro e w7 ⟨rfl, rfl⟩)
                        | (go_at_call 59; refine (HVk.out _).mono ?_; rintro e w7 ⟨rfl, rfl⟩))
                      go_wp2_with fail
                      go_roundw
                      case rel => exact ⟨j + 1 + 1, by omega, by go_num, congrArg (Value.int .i64) HU2.out.symm, congrArg (Value.int .i64) HDD.out.symm, HB6.out⟩
                      case measure => simp [intOf]; omega
                · have hp1i : (((atL l j).kind : Int) != 1) = true := by simp; omega
                  by_cases hp2 : (atL l j).kind = 2
                  · have HEND : Hid (endW (atL l j) = true) := by rw [HW.out b3 rfl, hp2]; rfl
                    have hp2i : (((atL l j).kind : Int) != 2) = false := by simp; omega
                    clear hp1 hp2 HI3 HW
                    go_wp2_with (first
                      | (go_at_call 60; refine (HK.out _).mono ?_; rintro e w3 ⟨rfl, HB⟩; have HL3 : Hid (Lie w3 b o l) := HL2.out.below HB; have HB3 : Hid (Below w.heap.size w w3) := HB2.out.trans (HB.mono HB2.out.size); obtain ⟨x0, x1, x2, x3⟩ := HL3.out j hj; have hbl : b < w3.heap.size := World.block_lt_of_cell? w3 _ x0; have HD3 : Hid True := trivial; clear HB)
                      | (go_at_call 58; have := HD1; refine (HI2.out _).mono ?_; rintro e w2 ⟨rfl, HB⟩; have HL2 : Hid (Lie w2 b o l) := HL1.out.below HB; have HB2 : Hid (Below w.heap.size w w2) := HB1.out.trans (HB.mono HB1.out.size); obtain ⟨x0, x1, x2, x3⟩ := HL2.out (j + 1) hlt; have hbl : b < w2.heap.size := World.block_lt_of_cell? w2 _ x0; have HD2 : Hid True := trivial; clear HB)
                      | (go_at_call 58; refine (HI1.out _).mono ?_; rintro e w1 ⟨rfl, HB⟩; have HL1 : Hid (Lie w1 b o l) := HL0.out.below HB; have HB1 : Hid (Below w.heap.size w w1) := HR.out.trans (HB.mono HR.out.size); obtain ⟨x0, x1, x2, x3⟩ := HL1.out (j + 1) hlt; have hbl : b < w1.heap.size := World.block_lt_of_cell? w1 _ x0; have HD1 : Hid True := trivial; clear HB))
                    obtain ⟨w4, hw4⟩ : ∃ w4, w4 = w3.alloc (.cells #[.int .i64 (atL l j).kind, .string (ba (atL l j).text), .int .i64 (atL l j).n, .int .i64 (atL l j).pos] 86) := ⟨_, rfl⟩
                    rw [← hw4]
                    have HL4 : Hid (Lie w4 b o l) := by rw [hw4]; exact HL3.out.below ((Below.refl _ _).alloc (Nat.le_refl _) _)
                    have HB4 : Hid (Below w.heap.size w w4) := by rw [hw4]; exact HB3.out.alloc HB3.out.size _
                    clear hw4
                    obtain ⟨x0, x1, x2, x3⟩ := HL4.out (j + 1) hlt
                    have hbl : b < w4.heap.size := World.block_lt_of_cell? w4 _ x0
                    cases hbe : (goG l (j + 1)).best with
                    | none =>
                      have hz1 : z = -1 := by rw [← hz, hbe]; rfl
                      have hz2 : decide (z < 0) = true := by rw [hz1]; rfl
                      have HZ : Hid (bestI (goG l (j + 1 + 1)).best = ((j + 1 : Nat) : Int)) := HT0.out d HDD.out hD hK (by rw [HEN.out]; exact HEND.out) hbe
                      subst hz1
                      go_region
                      go_wp2_with fail
                      go_roundw
                      case rel => exact ⟨j + 1 + 1, by omega, by go_num, congrArg (Value.int .i64) HZ.out.symm, congrArg (Value.int .i64) HDD.out.symm, Below.drew HB4.out⟩
                      case measure => simp [intOf]; omega
                    | some ml =>
                      have hz1 : z = (ml.1 : Int) := by rw [← hz, hbe]; rfl
                      subst hz1
                      obtain ⟨hmk, hmv⟩ := HG.out.best ml hbe
                      have HU1 : Hid _ := HU.out d HDD.out hD hK (by rw [HEN.out]; exact HEND.out) ml hbe
                      generalize hml1 : ml.1 = m at *
                      have hml : m < l.length := by omega
                      obtain ⟨y0, y1, y2, y3⟩ := HL4.out m hml
                      have hmz : decide ((m : Int) < 0) = false := by simp
                      have HKm : Hid (∀ w, Calls Try.prog 60 #[.agg #[.int .i64 (atL l m).kind, .string (ba (atL l m).text), .int .i64 (atL l m).n, .int .i64 (atL l m).pos]] w fun e w' => e = .returned (.int .i64 (kindW (atL l m))) ∧ Below w.heap.size w w') := kind_as (HOK.out m hml) rfl
                      have HVm : Hid (∀ w, Calls Try.prog 59 #[.int .i64 (kindW (atL l m))] w fun e w' => e = .returned (.int .i64 (levW (atL l m))) ∧ w' = w) := level_as rfl
                      have HVk : Hid (∀ w, Calls Try.prog 59 #[.int .i64 (kindW (atL l (j + 1)))] w fun e w' => e = .returned (.int .i64 (levW (atL l (j + 1)))) ∧ w' = w) := level_as rfl
                      clear hmv hbe hz
                      generalize levW (atL l m) = vm at *
                      generalize levW (atL l (j + 1)) = vk at *
                      generalize kindW (atL l m) = km at *
                      by_cases hle : vk ≤ vm
                      · have HU2 : Hid _ := HU1.out.1 hle
                        have hlei : decide ((vk : Int) ≤ (vm : Int)) = true := by simp; omega
                        clear HU1
                        go_region_held3 (fun w' => w'.cell? ⟨b, o + (j + 1) * 4, none⟩ = some (.int .i64 (atL l (j + 1)).kind) ∧ w'.cell? ⟨b, o + (j + 1) * 4 + 1, none⟩ = some (.string (ba (atL l (j + 1)).text)) ∧ w'.cell? ⟨b, o + (j + 1) * 4 + 2, none⟩ = some (.int .i64 (atL l (j + 1)).n) ∧ w'.cell? ⟨b, o + (j + 1) * 4 + 3, none⟩ = some (.int .i64 (atL l (j + 1)).pos) ∧ w'.cell? ⟨b, o + m * 4, none⟩ = some (.int .i64 (atL l m).kind) ∧ w'.cell? ⟨b, o + m * 4 + 1, none⟩ = some (.string (ba (atL l m).text)) ∧ w'.cell? ⟨b, o + m * 4 + 2, none⟩ = some (.int .i64 (atL l m).n) ∧ w'.cell? ⟨b, o + m * 4 + 3, none⟩ = some (.int .i64 (atL l m).pos)) (go_keep) (first
                          | (go_at_call 60; have := HF1; refine (HKm.out _).mono ?_; rintro e w6 ⟨rfl, HB⟩; have HL6 : Hid (Lie w6 b o l) := HL5.out.below HB; have HB6 : Hid (Below w.heap.size w w6) := HB5.out.trans (HB.mono HB5.out.size); obtain ⟨x0, x1, x2, x3⟩ := HL6.out (j + 1) hlt; obtain ⟨y0, y1, y2, y3⟩ := HL6.out m hml; have hbl : b < w6.heap.size := World.block_lt_of_cell? w6 _ x0; have HF2 : Hid True := trivial; clear HB)
                          | (go_at_call 60; refine (HK.out _).mono ?_; rintro e w5 ⟨rfl, HB⟩; have HL5 : Hid (Lie w5 b o l) := HL4.out.drawn.below HB; have HB5 : Hid (Below w.heap.size w w5) := (Below.drew HB4.out).trans (HB.mono HB4.out.size); obtain ⟨x0, x1, x2, x3⟩ := HL5.out (j + 1) hlt; obtain ⟨y0, y1, y2, y3⟩ := HL5.out m hml; have hbl : b < w5.heap.size := World.block_lt_of_cell? w5 _ x0; have HF1 : Hid True := trivial; clear HB)
                          | (go_at_call 59; have := HF2; refine (HVm.out _).mono ?_; rintro e w7 ⟨rfl, rfl⟩)
                          | (go_at_call 59; refine (HVk.out _).mono ?_; rintro e w7 ⟨rfl, rfl⟩))
                        go_wp2_with fail
                        go_roundw
                        case rel => exact ⟨j + 1 + 1, by omega, by go_num, congrArg (Value.int .i64) HU2.out.symm, congrArg (Value.int .i64) HDD.out.symm, HB6.out⟩
                        case measure => simp [intOf]; omega
                      · have HU2 : Hid _ := HU1.out.2 hle
                        have hlei : decide ((vk : Int) ≤ (vm : Int)) = false := by simp; omega
                        clear HU1
                        go_region_held3 (fun w' => w'.cell? ⟨b, o + (j + 1) * 4, none⟩ = some (.int .i64 (atL l (j + 1)).kind) ∧ w'.cell? ⟨b, o + (j + 1) * 4 + 1, none⟩ = some (.string (ba (atL l (j + 1)).text)) ∧ w'.cell? ⟨b, o + (j + 1) * 4 + 2, none⟩ = some (.int .i64 (atL l (j + 1)).n) ∧ w'.cell? ⟨b, o + (j + 1) * 4 + 3, none⟩ = some (.int .i64 (atL l (j + 1)).pos) ∧ w'.cell? ⟨b, o + m * 4, none⟩ = some (.int .i64 (atL l m).kind) ∧ w'.cell? ⟨b, o + m * 4 + 1, none⟩ = some (.string (ba (atL l m).text)) ∧ w'.cell? ⟨b, o + m * 4 + 2, none⟩ = some (.int .i64 (atL l m).n) ∧ w'.cell? ⟨b, o + m * 4 + 3, none⟩ = some (.int .i64 (atL l m).pos)) (go_keep) (first
                          | (go_at_call 60; have := HF1; refine (HKm.out _).mono ?_; rintro e w6 ⟨rfl, HB⟩; have HL6 : Hid (Lie w6 b o l) := HL5.out.below HB; have HB6 : Hid (Below w.heap.size w w6) := HB5.out.trans (HB.mono HB5.out.size); obtain ⟨x0, x1, x2, x3⟩ := HL6.out (j + 1) hlt; obtain ⟨y0, y1, y2, y3⟩ := HL6.out m hml; have hbl : b < w6.heap.size := World.block_lt_of_cell? w6 _ x0; have HF2 : Hid True := trivial; clear HB)
                          | (go_at_call 60; refine (HK.out _).mono ?_; rintro e w5 ⟨rfl, HB⟩; have HL5 : Hid (Lie w5 b o l) := HL4.out.drawn.below HB; have HB5 : Hid (Below w.heap.size w w5) := (Below.drew HB4.out).trans (HB.mono HB4.out.size); obtain ⟨x0, x1, x2, x3⟩ := HL5.out (j + 1) hlt; obtain ⟨y0, y1, y2, y3⟩ := HL5.out m hml; have hbl : b < w5.heap.size := World.block_lt_of_cell? w5 _ x0; have HF1 : Hid True := trivial; clear HB)
                          | (go_at_call 59; have := HF2; refine (HVm.out _).mono ?_; rintro e w7 ⟨rfl, rfl⟩)
                          | (go_at_call 59; refine (HVk.out _).mono ?_; rintro e w7 ⟨rfl, rfl⟩))
                        go_wp2_with fail
                        go_roundw
                        case rel => exact ⟨j + 1 + 1, by omega, by go_num, congrArg (Value.int .i64) HU2.out.symm, congrArg (Value.int .i64) HDD.out.symm, HB6.out⟩
                        case measure => simp [intOf]; omega
                  · have hp2i : (((atL l j).kind : Int) != 2) = true := by simp; omega
                    have HEND : Hid (endW (atL l j) = b3) := by rw [HW.out b3 rfl, decide_eq_false hp1, decide_eq_false hp2]; rfl
                    clear hp1 hp2 HW
                    cases b3 with
                    | true =>
                      go_wp2_with (first
                        | (go_at_call 58; have := HD3; refine (HI3.out _).mono ?_; rintro e w4 ⟨rfl, HB⟩; have HL4 : Hid (Lie w4 b o l) := (HL3.out.below ((Below.refl _ _).alloc (Nat.le_refl _) _)).below HB; have HB4 : Hid (Below w.heap.size w w4) := (HB3.out.alloc HB3.out.size _).trans (HB.mono (by rw [size_alloc]; exact Nat.le_succ_of_le HB3.out.size)); obtain ⟨x0, x1, x2, x3⟩ := HL4.out (j + 1) hlt; have hbl : b < w4.heap.size := World.block_lt_of_cell? w4 _ x0; have HD4 : Hid True := trivial; clear HB)
                        | (go_at_call 60; refine (HK.out _).mono ?_; rintro e w3 ⟨rfl, HB⟩; have HL3 : Hid (Lie w3 b o l) := HL2.out.below HB; have HB3 : Hid (Below w.heap.size w w3) := HB2.out.trans (HB.mono HB2.out.size); obtain ⟨x0, x1, x2, x3⟩ := HL3.out j hj; have hbl : b < w3.heap.size := World.block_lt_of_cell? w3 _ x0; have HD3 : Hid True := trivial; clear HB)
                        | (go_at_call 58; have := HD1; refine (HI2.out _).mono ?_; rintro e w2 ⟨rfl, HB⟩; have HL2 : Hid (Lie w2 b o l) := HL1.out.below HB; have HB2 : Hid (Below w.heap.size w w2) := HB1.out.trans (HB.mono HB1.out.size); obtain ⟨x0, x1, x2, x3⟩ := HL2.out (j + 1) hlt; have hbl : b < w2.heap.size := World.block_lt_of_cell? w2 _ x0; have HD2 : Hid True := trivial; clear HB)
                        | (go_at_call 58; refine (HI1.out _).mono ?_; rintro e w1 ⟨rfl, HB⟩; have HL1 : Hid (Lie w1 b o l) := HL0.out.below HB; have HB1 : Hid (Below w.heap.size w w1) := HR.out.trans (HB.mono HR.out.size); obtain ⟨x0, x1, x2, x3⟩ := HL1.out (j + 1) hlt; have hbl : b < w1.heap.size := World.block_lt_of_cell? w1 _ x0; have HD1 : Hid True := trivial; clear HB))
                      cases hbe : (goG l (j + 1)).best with
                      | none =>
                        have hz1 : z = -1 := by rw [← hz, hbe]; rfl
                        have hz2 : decide (z < 0) = true := by rw [hz1]; rfl
                        have HZ : Hid (bestI (goG l (j + 1 + 1)).best = ((j + 1 : Nat) : Int)) := HT0.out d HDD.out hD hK (by rw [HEN.out]; exact HEND.out) hbe
                        subst hz1
                        go_region
                        go_wp2_with fail
                        go_roundw
                        case rel => exact ⟨j + 1 + 1, by omega, by go_num, congrArg (Value.int .i64) HZ.out.symm, congrArg (Value.int .i64) HDD.out.symm, Below.drew HB4.out⟩
                        case measure => simp [intOf]; omega
                      | some ml =>
                        have hz1 : z = (ml.1 : Int) := by rw [← hz, hbe]; rfl
                        subst hz1
                        obtain ⟨hmk, hmv⟩ := HG.out.best ml hbe
                        have HU1 : Hid _ := HU.out d HDD.out hD hK (by rw [HEN.out]; exact HEND.out) ml hbe
                        generalize hml1 : ml.1 = m at *
                        have hml : m < l.length := by omega
                        obtain ⟨y0, y1, y2, y3⟩ := HL4.out m hml
                        have hmz : decide ((m : Int) < 0) = false := by simp
                        have HKm : Hid (∀ w, Calls Try.prog 60 #[.agg #[.int .i64 (atL l m).kind, .string (ba (atL l m).text), .int .i64 (atL l m).n, .int .i64 (atL l m).pos]] w fun e w' => e = .returned (.int .i64 (kindW (atL l m))) ∧ Below w.heap.size w w') := kind_as (HOK.out m hml) rfl
                        have HVm : Hid (∀ w, Calls Try.prog 59 #[.int .i64 (kindW (atL l m))] w fun e w' => e = .returned (.int .i64 (levW (atL l m))) ∧ w' = w) := level_as rfl
                        have HVk : Hid (∀ w, Calls Try.prog 59 #[.int .i64 (kindW (atL l (j + 1)))] w fun e w' => e = .returned (.int .i64 (levW (atL l (j + 1)))) ∧ w' = w) := level_as rfl
                        clear hmv hbe hz
                        generalize levW (atL l m) = vm at *
                        generalize levW (atL l (j + 1)) = vk at *
                        generalize kindW (atL l m) = km at *
                        by_cases hle : vk ≤ vm
                        · have HU2 : Hid _ := HU1.out.1 hle
                          have hlei : decide ((vk : Int) ≤ (vm : Int)) = true := by simp; omega
                          clear HU1
                          go_region_held3 (fun w' => w'.cell? ⟨b, o + (j + 1) * 4, none⟩ = some (.int .i64 (atL l (j + 1)).kind) ∧ w'.cell? ⟨b, o + (j + 1) * 4 + 1, none⟩ = some (.string (ba (atL l (j + 1)).text)) ∧ w'.cell? ⟨b, o + (j + 1) * 4 + 2, none⟩ = some (.int .i64 (atL l (j + 1)).n) ∧ w'.cell? ⟨b, o + (j + 1) * 4 + 3, none⟩ = some (.int .i64 (atL l (j + 1)).pos) ∧ w'.cell? ⟨b, o + m * 4, none⟩ = some (.int .i64 (atL l m).kind) ∧ w'.cell? ⟨b, o + m * 4 + 1, none⟩ = some (.string (ba (atL l m).text)) ∧ w'.cell? ⟨b, o + m * 4 + 2, none⟩ = some (.int .i64 (atL l m).n) ∧ w'.cell? ⟨b, o + m * 4 + 3, none⟩ = some (.int .i64 (atL l m).pos)) (go_keep) (first
                            | (go_at_call 60; have := HF1; refine (HKm.out _).mono ?_; rintro e w6 ⟨rfl, HB⟩; have HL6 : Hid (Lie w6 b o l) := HL5.out.below HB; have HB6 : Hid (Below w.heap.size w w6) := HB5.out.trans (HB.mono HB5.out.size); obtain ⟨x0, x1, x2, x3⟩ := HL6.out (j + 1) hlt; obtain ⟨y0, y1, y2, y3⟩ := HL6.out m hml; have hbl : b < w6.heap.size := World.block_lt_of_cell? w6 _ x0; have HF2 : Hid True := trivial; clear HB)
                            | (go_at_call 60; refine (HK.out _).mono ?_; rintro e w5 ⟨rfl, HB⟩; have HL5 : Hid (Lie w5 b o l) := HL4.out.drawn.below HB; have HB5 : Hid (Below w.heap.size w w5) := (Below.drew HB4.out).trans (HB.mono HB4.out.size); obtain ⟨x0, x1, x2, x3⟩ := HL5.out (j + 1) hlt; obtain ⟨y0, y1, y2, y3⟩ := HL5.out m hml; have hbl : b < w5.heap.size := World.block_lt_of_cell? w5 _ x0; have HF1 : Hid True := trivial; clear HB)
                            | (go_at_call 59; have := HF2; refine (HVm.out _).mono ?_; rintro e w7 ⟨rfl, rfl⟩)
                            | (go_at_call 59; refine (HVk.out _).mono ?_; rintro e w7 ⟨rfl, rfl⟩))
                          go_wp2_with fail
                          go_roundw
                          case rel => exact ⟨j + 1 + 1, by omega, by go_num, congrArg (Value.int .i64) HU2.out.symm, congrArg (Value.int .i64) HDD.out.symm, HB6.out⟩
                          case measure => simp [intOf]; omega
                        · have HU2 : Hid _ := HU1.out.2 hle
                          have hlei : decide ((vk : Int) ≤ (vm : Int)) = false := by simp; omega
                          clear HU1
                          go_region_held3 (fun w' => w'.cell? ⟨b, o + (j + 1) * 4, none⟩ = some (.int .i64 (atL l (j + 1)).kind) ∧ w'.cell? ⟨b, o + (j + 1) * 4 + 1, none⟩ = some (.string (ba (atL l (j + 1)).text)) ∧ w'.cell? ⟨b, o + (j + 1) * 4 + 2, none⟩ = some (.int .i64 (atL l (j + 1)).n) ∧ w'.cell? ⟨b, o + (j + 1) * 4 + 3, none⟩ = some (.int .i64 (atL l (j + 1)).pos) ∧ w'.cell? ⟨b, o + m * 4, none⟩ = some (.int .i64 (atL l m).kind) ∧ w'.cell? ⟨b, o + m * 4 + 1, none⟩ = some (.string (ba (atL l m).text)) ∧ w'.cell? ⟨b, o + m * 4 + 2, none⟩ = some (.int .i64 (atL l m).n) ∧ w'.cell? ⟨b, o + m * 4 + 3, none⟩ = some (.int .i64 (atL l m).pos)) (go_keep) (first
                            | (go_at_call 60; have := HF1; refine (HKm.out _).mono ?_; rintro e w6 ⟨rfl, HB⟩; have HL6 : Hid (Lie w6 b o l) := HL5.out.below HB; have HB6 : Hid (Below w.heap.size w w6) := HB5.out.trans (HB.mono HB5.out.size); obtain ⟨x0, x1, x2, x3⟩ := HL6.out (j + 1) hlt; obtain ⟨y0, y1, y2, y3⟩ := HL6.out m hml; have hbl : b < w6.heap.size := World.block_lt_of_cell? w6 _ x0; have HF2 : Hid True := trivial; clear HB)
                            | (go_at_call 60; refine (HK.out _).mono ?_; rintro e w5 ⟨rfl, HB⟩; have HL5 : Hid (Lie w5 b o l) := HL4.out.drawn.below HB; have HB5 : Hid (Below w.heap.size w w5) := (Below.drew HB4.out).trans (HB.mono HB4.out.size); obtain ⟨x0, x1, x2, x3⟩ := HL5.out (j + 1) hlt; obtain ⟨y0, y1, y2, y3⟩ := HL5.out m hml; have hbl : b < w5.heap.size := World.block_lt_of_cell? w5 _ x0; have HF1 : Hid True := trivial; clear HB)
                            | (go_at_call 59; have := HF2; refine (HVm.out _).mono ?_; rintro e w7 ⟨rfl, rfl⟩)
                            | (go_at_call 59; refine (HVk.out _).mono ?_; rintro e w7 ⟨rfl, rfl⟩))
                          go_wp2_with fail
                          go_roundw
                          case rel => exact ⟨j + 1 + 1, by omega, by go_num, congrArg (Value.int .i64) HU2.out.symm, congrArg (Value.int .i64) HDD.out.symm, HB6.out⟩
                          case measure => simp [intOf]; omega
                    | false =>
                      have HE0 : Hid (bestI (goG l (j + 1 + 1)).best = z) := HT.out d HDD.out (.inr (.inr (by rw [HEN.out]; exact HEND.out)))
                      go_wp2_with (first
                        | (go_at_call 58; have := HD3; refine (HI3.out _).mono ?_; rintro e w4 ⟨rfl, HB⟩; have HL4 : Hid (Lie w4 b o l) := (HL3.out.below ((Below.refl _ _).alloc (Nat.le_refl _) _)).below HB; have HB4 : Hid (Below w.heap.size w w4) := (HB3.out.alloc HB3.out.size _).trans (HB.mono (by rw [size_alloc]; exact Nat.le_succ_of_le HB3.out.size)); obtain ⟨x0, x1, x2, x3⟩ := HL4.out (j + 1) hlt; have hbl : b < w4.heap.size := World.block_lt_of_cell? w4 _ x0; have HD4 : Hid True := trivial; clear HB)
                        | (go_at_call 60; refine (HK.out _).mono ?_; rintro e w3 ⟨rfl, HB⟩; have HL3 : Hid (Lie w3 b o l) := HL2.out.below HB; have HB3 : Hid (Below w.heap.size w w3) := HB2.out.trans (HB.mono HB2.out.size); obtain ⟨x0, x1, x2, x3⟩ := HL3.out j hj; have hbl : b < w3.heap.size := World.block_lt_of_cell? w3 _ x0; have HD3 : Hid True := trivial; clear HB)
                        | (go_at_call 58; have := HD1; refine (HI2.out _).mono ?_; rintro e w2 ⟨rfl, HB⟩; have HL2 : Hid (Lie w2 b o l) := HL1.out.below HB; have HB2 : Hid (Below w.heap.size w w2) := HB1.out.trans (HB.mono HB1.out.size); obtain ⟨x0, x1, x2, x3⟩ := HL2.out (j + 1) hlt; have hbl : b < w2.heap.size := World.block_lt_of_cell? w2 _ x0; have HD2 : Hid True := trivial; clear HB)
                        | (go_at_call 58; refine (HI1.out _).mono ?_; rintro e w1 ⟨rfl, HB⟩; have HL1 : Hid (Lie w1 b o l) := HL0.out.below HB; have HB1 : Hid (Below w.heap.size w w1) := HR.out.trans (HB.mono HR.out.size); obtain ⟨x0, x1, x2, x3⟩ := HL1.out (j + 1) hlt; have hbl : b < w1.heap.size := World.block_lt_of_cell? w1 _ x0; have HD1 : Hid True := trivial; clear HB))
                      go_roundw
                      case rel => exact ⟨j + 1 + 1, by omega, by go_num, congrArg (Value.int .i64) HE0.out.symm, congrArg (Value.int .i64) HDD.out.symm, HB4.out⟩
                      case measure => simp [intOf]; omega
    · have he : k = l.length := by omega
      subst he
      have HB3 : Hid (Below w.heap.size w wr) := HR.out
      clear HR
      go_wp2
      go_ret
      exact ⟨rfl, HB3.out⟩
end Go.Proofs.Ytfjphlejhcdbaaa
