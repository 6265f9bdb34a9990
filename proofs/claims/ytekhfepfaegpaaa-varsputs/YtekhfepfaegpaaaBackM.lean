/-
  Variables as bytes, there and back: mathematics.
-/
import Derived.Test.YtekhfepfaegpaaaRead
namespace Go.Proofs.Ytekhfepfaegpaaa
open Go.RowKit Pack
set_option linter.unusedVariables false

def I64 (x : Int) : Prop := -9223372036854775808 ≤ x ∧ x ≤ 9223372036854775807
theorem oneM_ent (p : ByteArray × Int) (t : List (BitVec 8)) (h1 : p.1.size ≤ 1000000) (h2 : I64 p.2) : oneM (entB p ++ t) = .ok (bsOf p.1, p.2, t) := by
  have e : entB p ++ t = urow p.1.size ++ (bsOf p.1 ++ (urow (zz p.2) ++ t)) := by unfold entB; simp [List.append_assoc]
  have k1 : rd 0 (urow p.1.size ++ (bsOf p.1 ++ (urow (zz p.2) ++ t))) = .inl (urow p.1.size).length := rd0_urow _ (by omega)
  have v1 : val ((urow p.1.size ++ (bsOf p.1 ++ (urow (zz p.2) ++ t))).take (urow p.1.size).length) = p.1.size := val_row _ _
  have d1 : (urow p.1.size ++ (bsOf p.1 ++ (urow (zz p.2) ++ t))).drop (urow p.1.size).length = bsOf p.1 ++ (urow (zz p.2) ++ t) := drop_row _ _
  have d2 : (urow p.1.size ++ (bsOf p.1 ++ (urow (zz p.2) ++ t))).drop ((urow p.1.size).length + p.1.size) = urow (zz p.2) ++ t := by
    rw [← List.drop_drop, d1, ← bsOf_len, List.drop_left]
  have k2 : rd 0 (urow (zz p.2) ++ t) = .inl (urow (zz p.2)).length := rd0_urow _ (zz_lt h2.1 h2.2)
  unfold oneM
  rw [e, k1]
  simp only [v1, d2]
  rw [if_pos (by simp [bsOf_len]), k2]
  simp only [d1, val_row, drop_row, unzz_zz]
  rw [← bsOf_len, List.take_left]
theorem manyM_pack : ∀ (l : VL) (acc : VL) (t : List (BitVec 8)), (∀ p ∈ l, p.1.size ≤ 1000000 ∧ I64 p.2) → manyM l.length (packE l ++ t) acc = .ok (acc ++ l, t)
  | [], acc, t, _ => by simp [manyM, packE]
  | p :: l, acc, t, h => by
    have e : packE (p :: l) ++ t = entB p ++ (packE l ++ t) := by simp [packE]
    rw [e, List.length_cons, manyM, oneM_ent p _ (h p (by simp)).1 (h p (by simp)).2]
    simp only [str_bsOf]
    rw [manyM_pack l _ t fun q hq => h q (by simp [hq])]
    simp
theorem readM_pack {l : VL} (t : List (BitVec 8)) (hc : chk (nmsOf l) (valsOf l) = 0) (h : ∀ p ∈ l, p.1.size ≤ 1000000 ∧ I64 p.2) : readM (packV l ++ t) = .ok (l, t) := by
  have hlen : l.length ≤ 64 := by have := (chk_ok hc).2.1; rwa [nmsOf_len] at this
  have e : packV l ++ t = urow l.length ++ (packE l ++ t) := by simp [packV]
  have k1 : rd 0 (urow l.length ++ (packE l ++ t)) = .inl (urow l.length).length := rd0_urow _ (by omega)
  rw [e]
  refine readM_fine k1 (by rw [val_row]; omega) ?_ hc
  rw [val_row, drop_row, manyM_pack l [] t h]
  simp
theorem oneM_back {b s r : List (BitVec 8)} {x : Int} (h : oneM b = .ok (s, x, r)) : entB (str s, x) ++ r = b ∧ s.length ≤ b.length ∧ I64 x := by
  unfold oneM at h
  rcases hk : rd 0 b with k | q
  · rw [hk] at h
    simp only at h
    split at h
    · rename_i hm
      rcases hj : rd 0 (b.drop (k + val (b.take k))) with j | q
      · rw [hj] at h
        simp only [Except.ok.injEq, Prod.mk.injEq] at h
        obtain ⟨rfl, rfl, rfl⟩ := h
        obtain ⟨a1, a2, a3, a4, a5⟩ := rd0_ok hk
        obtain ⟨b1, b2, b3, b4, b5⟩ := rd0_ok hj
        have hsl : ((b.drop k).take (val (b.take k))).length = val (b.take k) := by rw [List.length_take, List.length_drop]; omega
        refine ⟨?_, by simp; omega, ?_⟩
        · unfold entB
          rw [str_size, hsl, bsOf_str, zz_unzz, a4, b4]
          rw [List.append_assoc, List.append_assoc, List.take_append_drop]
          have : b.drop (k + val (b.take k)) = (b.drop k).drop (val (b.take k)) := by rw [List.drop_drop]
          rw [this, List.take_append_drop, List.take_append_drop]
        · unfold I64 unzz
          split <;> omega
      · rw [hj] at h; cases h
    · cases h
  · rw [hk] at h; cases h
theorem manyM_back : ∀ (n : Nat) (b : List (BitVec 8)) (acc : VL) (l : VL) (r : List (BitVec 8)), manyM n b acc = .ok (l, r) → ∃ m, l = acc ++ m ∧ m.length = n ∧ packE m ++ r = b ∧ ∀ p ∈ m, p.1.size ≤ b.length ∧ I64 p.2
  | 0, b, acc, l, r, h => by
    simp only [manyM, Except.ok.injEq, Prod.mk.injEq] at h
    obtain ⟨rfl, rfl⟩ := h
    exact ⟨[], by simp, rfl, by simp [packE], by simp⟩
  | n + 1, b, acc, l, r, h => by
    rw [manyM] at h
    cases ho : oneM b with
    | error c => rw [ho] at h; cases h
    | ok sxr =>
      obtain ⟨s, x, r'⟩ := sxr
      rw [ho] at h
      simp only at h
      obtain ⟨m, rfl, hm, hp, hq⟩ := manyM_back n r' _ l r h
      obtain ⟨ho1, ho2, ho3⟩ := oneM_back ho
      have hr' := (oneM_len ho).2
      refine ⟨(str s, x) :: m, by simp, by simp [hm], ?_, fun p hp2 => ?_⟩
      · have e : packE ((str s, x) :: m) ++ r = entB (str s, x) ++ (packE m ++ r) := by simp [packE]
        rw [e, hp, ho1]
      · rcases List.mem_cons.1 hp2 with rfl | hp2
        · exact ⟨by show (str s).size ≤ _; rw [str_size]; exact ho2, ho3⟩
        · exact ⟨by have := (hq p hp2).1; omega, (hq p hp2).2⟩
theorem readM_back {b r : List (BitVec 8)} {l : VL} (h : readM b = .ok (l, r)) : packV l ++ r = b ∧ chk (nmsOf l) (valsOf l) = 0 ∧ ∀ p ∈ l, p.1.size ≤ b.length ∧ I64 p.2 := by
  unfold readM at h
  rcases hk : rd 0 b with k | q
  · rw [hk] at h
    simp only at h
    split at h
    · cases h
    · rename_i h64
      cases hm : manyM (val (b.take k)) (b.drop k) [] with
      | error c => rw [hm] at h; cases h
      | ok lr =>
        obtain ⟨l', r'⟩ := lr
        rw [hm] at h
        simp only at h
        split at h
        · cases h
        · rename_i hc
          simp only [Except.ok.injEq, Prod.mk.injEq] at h
          obtain ⟨rfl, rfl⟩ := h
          obtain ⟨m, e, hml, hp, hq⟩ := manyM_back _ _ _ _ _ hm
          simp only [List.nil_append] at e
          subst e
          obtain ⟨a1, a2, a3, a4, a5⟩ := rd0_ok hk
          refine ⟨?_, by omega, fun p hp2 => ⟨by have := (hq p hp2).1; rw [List.length_drop] at this; omega, (hq p hp2).2⟩⟩
          unfold packV
          rw [hml, a4, List.append_assoc, hp, List.take_append_drop]
  · rw [hk] at h; cases h

/- Two names and their numbers, for the example. -/
def aB : ByteArray := ⟨#[97]⟩
def bB : ByteArray := ⟨#[98]⟩
theorem aB_tl : aB.toList = [97] := by rw [tl_eq]; rfl
theorem bB_tl : bB.toList = [98] := by rw [tl_eq]; rfl
theorem isVar_a : isVar aB = true := by
  unfold isVar
  rw [aB_tl, yes_tl, no_tl, show nm aB = true by decide]; rfl
theorem isVar_b : isVar bB = true := by
  unfold isVar
  rw [bB_tl, yes_tl, no_tl, show nm bB = true by decide]; rfl
theorem isVar_no : isVar noB = false := by
  unfold isVar
  rw [no_tl]; simp
theorem bl_ab : bl aB bB = true := by unfold bl; rw [aB_tl, bB_tl]; rfl
theorem bl_ba : bl bB aB = false := bl_asym bl_ab
theorem ab_ne : bB ≠ aB := fun e => by have := bl_ab; rw [e, bl_irr] at this; cases this
theorem chk_one {s : ByteArray} {n : Int} (h : isVar s = true) : chk [s] [n] = 0 := chk_of rfl (by simp) (by simp [rise, h, emp_bl (isVar_pos h).1])
theorem chk_ab (x y : Int) : chk [aB, bB] [x, y] = 0 := chk_of rfl (by simp) (by simp [rise, isVar_a, isVar_b, emp_bl (isVar_pos isVar_a).1, bl_ab])
def exA : VL := [(aB, -1), (bB, 5)]
theorem ex_of : ofM [([bB], [2]), ([aB], [-1]), ([bB], [5])] = (0, exA) := by
  have he : errs [([bB], [2]), ([aB], [-1]), ([bB], [5])] = 0 := by simp [errs, chk_one isVar_a, chk_one isVar_b]
  have ha : allM [([bB], [2]), ([aB], [-1]), ([bB], [5])] = exA := by
    simp [allM, putAll, zipV, putM, bl_ba, bl_ab, bl_irr, ab_ne, exA]
  unfold ofM
  rw [he, ha]
  simp [exA]
theorem ex_chk : chk (nmsOf exA) (valsOf exA) = 0 := chk_ab _ _
theorem ex_get : getV exA bB = 5 ∧ fnd (nmsOf exA) bB = true := by
  have hp : pos (nmsOf exA) bB = 1 := by simp [nmsOf, exA, pos, bl_ab, bl_irr]
  have hf : fnd (nmsOf exA) bB = true := by unfold fnd; rw [hp]; simp [nmsOf, exA]
  refine ⟨?_, hf⟩
  unfold getV
  rw [if_pos hf, hp]
  simp [valsOf, exA]
theorem ex_sizes : ∀ p ∈ exA, p.1.size ≤ 1000000 ∧ I64 p.2 := by
  intro p hp
  simp [exA] at hp
  rcases hp with rfl | rfl
  · exact ⟨by decide, by unfold I64; decide⟩
  · exact ⟨by decide, by unfold I64; decide⟩
theorem ex_read (t : List (BitVec 8)) : readM (packV exA ++ t) = .ok (exA, t) := readM_pack t ex_chk ex_sizes
theorem ex_set : ofM [(nmsOf exA, valsOf exA), ([noB], [1])] = (1, []) := by
  have hc : chk [noB] [1] = 1 := by unfold chk; simp [rise, isVar_no]
  have he : errs [(nmsOf exA, valsOf exA), ([noB], [1])] = 1 := by simp [errs, ex_chk, hc]
  unfold ofM
  rw [he]
  simp
theorem ex_srt : Srt (nmsOf exA) := (rise_all (chk_ok ex_chk).2.2).2
end Go.Proofs.Ytekhfepfaegpaaa
