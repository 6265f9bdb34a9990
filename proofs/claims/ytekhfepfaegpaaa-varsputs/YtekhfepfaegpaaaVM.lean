/-
  Variables as mathematics: the order of names, which variables may be, one put to others, what one has.
-/
import Derived.Test.YtekhfepfaegpaaaNames
namespace Go.Proofs.Ytekhfepfaegpaaa
open Go.RowKit Pack
set_option linter.unusedVariables false

theorem bless_irr : ∀ x : List UInt8, Op.bytesLess x x = false
  | [] => rfl
  | a :: x => by rw [Op.bytesLess, bless_irr x]; simp
theorem bless_tr : ∀ x y z : List UInt8, Op.bytesLess x y = true → Op.bytesLess y z = true → Op.bytesLess x z = true
  | _, [], _, h, _ => by rw [Op.bytesLess] at h; cases h
  | _, _ :: _, [], _, h => by rw [Op.bytesLess] at h; cases h
  | [], _ :: _, _ :: _, _, _ => rfl
  | a :: x, b :: y, c :: z, h1, h2 => by
    rw [Op.bytesLess] at h1 h2 ⊢
    simp only [Bool.or_eq_true, Bool.and_eq_true, decide_eq_true_eq, beq_iff_eq] at h1 h2 ⊢
    rcases h1 with h1 | ⟨rfl, h1⟩
    · rcases h2 with h2 | ⟨rfl, h2⟩
      · exact .inl (UInt8.lt_trans h1 h2)
      · exact .inl h1
    · rcases h2 with h2 | ⟨rfl, h2⟩
      · exact .inl h2
      · exact .inr ⟨rfl, bless_tr x y z h1 h2⟩
theorem bless_tot : ∀ x y : List UInt8, Op.bytesLess x y = false → Op.bytesLess y x = false → x = y
  | [], [], _, _ => rfl
  | _ :: _, [], _, h => by rw [Op.bytesLess] at h; cases h
  | [], _ :: _, h, _ => by rw [Op.bytesLess] at h; cases h
  | a :: x, b :: y, h1, h2 => by
    rw [Op.bytesLess] at h1 h2
    simp only [Bool.or_eq_false_iff, Bool.and_eq_false_iff, decide_eq_false_iff_not, beq_eq_false_iff_ne] at h1 h2
    have e : a = b := UInt8.le_antisymm (UInt8.not_lt.1 h2.1) (UInt8.not_lt.1 h1.1)
    subst e
    rw [bless_tot x y (by rcases h1.2 with h | h; exact absurd rfl h; exact h) (by rcases h2.2 with h | h; exact absurd rfl h; exact h)]

theorem tl_eq (s : ByteArray) : s.toList = s.data.toList := ByteArray.toList_eq s
theorem ba_ext {s t : ByteArray} (h : s.toList = t.toList) : s = t := by
  rw [tl_eq, tl_eq] at h
  cases s with
  | mk a => cases t with
    | mk b => exact congrArg ByteArray.mk (Array.toList_inj.1 h)
/-- One name ahead of another. -/
def bl (s t : ByteArray) : Bool := Op.bytesLess s.toList t.toList
theorem bl_irr (s : ByteArray) : bl s s = false := bless_irr _
theorem bl_tr {s t u : ByteArray} (h1 : bl s t = true) (h2 : bl t u = true) : bl s u = true := bless_tr _ _ _ h1 h2
theorem bl_tot {s t : ByteArray} (h1 : bl s t = false) (h2 : bl t s = false) : s = t := ba_ext (bless_tot _ _ h1 h2)
theorem bl_ne {s t : ByteArray} (h : bl s t = true) : s ≠ t := fun e => by subst e; rw [bl_irr] at h; cases h
theorem bl_asym {s t : ByteArray} (h : bl s t = true) : bl t s = false := by
  cases h2 : bl t s with
  | false => rfl
  | true => have := bl_tr h h2; rw [bl_irr] at this; cases this
theorem bl_lt_of_not {s t u : ByteArray} (h1 : bl t s = false) (h2 : bl t u = true) : bl s u = true := by
  by_cases e : s = t
  · subst e; exact h2
  · cases h : bl s t with
    | true => exact bl_tr h h2
    | false => exact absurd (bl_tot h h1) e

def emp : ByteArray := ⟨#[]⟩
def yesB : ByteArray := ⟨#[121, 101, 115]⟩
def noB : ByteArray := ⟨#[110, 111]⟩
/-- May a text be a variable's name? -/
def isVar (s : ByteArray) : Bool := nm s && (!(s.toList == yesB.toList) && !(s.toList == noB.toList))
theorem isVar_pos {s : ByteArray} (h : isVar s = true) : 0 < s.size ∧ s.size ≤ 32 := by
  unfold isVar at h
  simp only [Bool.and_eq_true] at h
  have := (nm_iff s).1 h.1
  exact ⟨this.1, this.2.1⟩
theorem toList_len (s : ByteArray) : s.toList.length = s.size := by rw [tl_eq]; rfl
theorem emp_bl {s : ByteArray} (h : 0 < s.size) : bl emp s = true := by
  unfold bl
  have e : emp.toList = [] := by rw [tl_eq]; rfl
  rw [e]
  cases hs : s.toList with
  | nil => have := toList_len s; rw [hs] at this; simp at this; omega
  | cons a l => rfl
/-- Names that may be, each behind the one ahead of it. -/
def rise : ByteArray → List ByteArray → Bool
  | _, [] => true
  | a, n :: r => isVar n && (bl a n && rise n r)
/-- Check's answer. -/
def chk (ns : List ByteArray) (vs : List Int) : Nat := if ns.length ≠ vs.length then 1 else if 64 < ns.length then 6 else if rise emp ns = true then 0 else 1
def Srt (ns : List ByteArray) : Prop := ns.Pairwise fun a b => bl a b = true
theorem rise_all : ∀ {a : ByteArray} {ns : List ByteArray}, rise a ns = true → (∀ n ∈ ns, isVar n = true ∧ bl a n = true) ∧ Srt ns
  | a, [], _ => ⟨by simp, List.Pairwise.nil⟩
  | a, n :: r, h => by
    unfold rise at h
    simp only [Bool.and_eq_true] at h
    obtain ⟨h1, h2⟩ := rise_all h.2.2
    refine ⟨fun m hm => ?_, List.pairwise_cons.2 ⟨fun m hm => (h1 m hm).2, h2⟩⟩
    rcases List.mem_cons.1 hm with rfl | hm
    · exact ⟨h.1, h.2.1⟩
    · exact ⟨(h1 m hm).1, bl_tr h.2.1 (h1 m hm).2⟩
theorem rise_of : ∀ {a : ByteArray} {ns : List ByteArray}, (∀ n ∈ ns, isVar n = true ∧ bl a n = true) → Srt ns → rise a ns = true
  | a, [], _, _ => rfl
  | a, n :: r, h1, h2 => by
    have h3 := List.pairwise_cons.1 h2
    unfold rise
    rw [(h1 n (by simp)).1, (h1 n (by simp)).2, rise_of (fun m hm => ⟨(h1 m (by simp [hm])).1, h3.1 m hm⟩) h3.2]
    rfl
theorem chk_ok {ns : List ByteArray} {vs : List Int} (h : chk ns vs = 0) : ns.length = vs.length ∧ ns.length ≤ 64 ∧ rise emp ns = true := by
  unfold chk at h
  split at h
  · cases h
  · split at h
    · cases h
    · split at h
      · rename_i a b c; exact ⟨by omega, by omega, c⟩
      · cases h
theorem chk_of {ns : List ByteArray} {vs : List Int} (h1 : ns.length = vs.length) (h2 : ns.length ≤ 64) (h3 : rise emp ns = true) : chk ns vs = 0 := by
  unfold chk; rw [if_neg (by omega), if_neg (by omega), if_pos h3]
theorem chk_vals (ns : List ByteArray) (vs : List Int) : chk ns vs = 0 ∨ chk ns vs = 1 ∨ chk ns vs = 6 := by
  unfold chk
  repeat' split
  all_goals simp

/-- Variables: names with numbers. -/
abbrev VL := List (ByteArray × Int)
def nmsOf (l : VL) : List ByteArray := l.map (·.1)
def valsOf (l : VL) : List Int := l.map (·.2)
theorem nmsOf_len (l : VL) : (nmsOf l).length = l.length := List.length_map ..
theorem valsOf_len (l : VL) : (valsOf l).length = l.length := List.length_map ..
/-- How many names lie ahead of one. -/
def pos : List ByteArray → ByteArray → Nat
  | [], _ => 0
  | m :: r, n => if bl m n = true then pos r n + 1 else 0
theorem pos_le : ∀ (l : List ByteArray) (n : ByteArray), pos l n ≤ l.length
  | [], _ => Nat.le_refl _
  | m :: r, n => by unfold pos; split; have := pos_le r n; simp; omega; omega
theorem pos_eq : ∀ {l : List ByteArray} {n : ByteArray} {k : Nat}, k ≤ l.length → (∀ t, t < k → bl (l.getD t emp) n = true) → (k < l.length → bl (l.getD k emp) n = false) → pos l n = k
  | [], n, k, hk, _, _ => by simp at hk; subst hk; rfl
  | m :: r, n, k, hk, h1, h2 => by
    unfold pos
    cases k with
    | zero =>
      have := h2 (by simp)
      simp at this
      rw [if_neg (by rw [this]; simp)]
    | succ k =>
      have h0 := h1 0 (by omega)
      simp at h0
      rw [if_pos h0, pos_eq (k := k) (by simp at hk; omega) (fun t ht => by simpa using h1 (t + 1) (by omega)) (fun hlt => by simpa using h2 (by simp; omega))]
def fnd (l : List ByteArray) (n : ByteArray) : Bool := decide (pos l n < l.length ∧ l.getD (pos l n) emp = n)
theorem srt_lt {l : List ByteArray} (h : Srt l) {i j : Nat} (hij : i < j) (hj : j < l.length) : bl (l.getD i emp) (l.getD j emp) = true := by
  have := List.pairwise_iff_getElem.1 h i j (by omega) hj hij
  simpa [List.getD_eq_getElem?_getD, List.getElem?_eq_getElem hj, List.getElem?_eq_getElem (show i < l.length by omega)] using this
/-- One put to variables. -/
def putM : VL → ByteArray → Int → VL
  | [], n, x => [(n, x)]
  | (m, y) :: r, n, x => if bl m n = true then (m, y) :: putM r n x else if m = n then (n, x) :: r else (n, x) :: (m, y) :: r
theorem putM_found : ∀ {l : VL} {n : ByteArray} (x : Int), fnd (nmsOf l) n = true → putM l n x = l.set (pos (nmsOf l) n) (n, x)
  | [], n, x, h => by simp [fnd, nmsOf] at h
  | (m, y) :: r, n, x, h => by
    unfold putM
    by_cases hb : bl m n = true
    · rw [if_pos hb]
      have e : pos (nmsOf ((m, y) :: r)) n = pos (nmsOf r) n + 1 := by simp [nmsOf, pos, hb]
      rw [e, List.set_cons_succ]
      rw [putM_found x (by
        unfold fnd at h ⊢
        rw [e] at h
        simpa [nmsOf] using h)]
    · have e : pos (nmsOf ((m, y) :: r)) n = 0 := by simp [nmsOf, pos, hb]
      rw [if_neg hb, e]
      unfold fnd at h
      rw [e] at h
      simp [nmsOf] at h
      rw [if_pos h]
      rfl
theorem putM_new : ∀ {l : VL} {n : ByteArray} (x : Int), fnd (nmsOf l) n = false → putM l n x = l.insertIdx (pos (nmsOf l) n) (n, x)
  | [], n, x, h => rfl
  | (m, y) :: r, n, x, h => by
    unfold putM
    by_cases hb : bl m n = true
    · rw [if_pos hb]
      have e : pos (nmsOf ((m, y) :: r)) n = pos (nmsOf r) n + 1 := by simp [nmsOf, pos, hb]
      rw [e, List.insertIdx_succ_cons]
      rw [putM_new x (by
        unfold fnd at h ⊢
        rw [e] at h
        simpa [nmsOf] using h)]
    · have e : pos (nmsOf ((m, y) :: r)) n = 0 := by simp [nmsOf, pos, hb]
      rw [if_neg hb, e]
      unfold fnd at h
      rw [e] at h
      simp [nmsOf] at h
      rw [if_neg h]
      rfl
theorem nms_set {l : VL} {n : ByteArray} (x : Int) (h : fnd (nmsOf l) n = true) : nmsOf (l.set (pos (nmsOf l) n) (n, x)) = nmsOf l := by
  unfold fnd at h
  obtain ⟨h1, h2⟩ := of_decide_eq_true h
  generalize pos (nmsOf l) n = k at *
  have : nmsOf (l.set k (n, x)) = (nmsOf l).set k n := by simp [nmsOf, List.map_set]
  rw [this]
  subst h2
  rw [List.getD_eq_getElem?_getD, List.getElem?_eq_getElem h1]
  simp
theorem vals_set (l : VL) (k : Nat) (n : ByteArray) (x : Int) : valsOf (l.set k (n, x)) = (valsOf l).set k x := by simp [valsOf, List.map_set]
theorem map_insertIdx {α β : Type} (f : α → β) : ∀ (l : List α) (k : Nat) (a : α), (l.insertIdx k a).map f = (l.map f).insertIdx k (f a)
  | l, 0, a => by simp
  | [], k + 1, a => by simp
  | b :: l, k + 1, a => by simp [map_insertIdx f l k a]
theorem putM_mem : ∀ {l : VL} {n : ByteArray} {x : Int} {p : ByteArray × Int}, p ∈ putM l n x → p = (n, x) ∨ p ∈ l
  | [], n, x, p, h => by simp [putM] at h; exact .inl h
  | (m, y) :: r, n, x, p, h => by
    unfold putM at h
    split at h
    · rcases List.mem_cons.1 h with h | h
      · exact .inr (by simp [h])
      · rcases putM_mem h with h | h
        · exact .inl h
        · exact .inr (by simp [h])
    · split at h
      · rcases List.mem_cons.1 h with h | h
        · exact .inl h
        · exact .inr (by simp [h])
      · rcases List.mem_cons.1 h with h | h
        · exact .inl h
        · exact .inr h
theorem putM_srt : ∀ {l : VL} {n : ByteArray} {x : Int}, Srt (nmsOf l) → Srt (nmsOf (putM l n x))
  | [], n, x, h => by simp [putM, nmsOf, Srt]
  | (m, y) :: r, n, x, h => by
    have h2 := List.pairwise_cons.1 (show (m :: nmsOf r).Pairwise _ from h)
    unfold putM
    split
    · rename_i hb
      refine List.pairwise_cons.2 ⟨fun q hq => ?_, putM_srt h2.2⟩
      obtain ⟨p, hp, rfl⟩ := List.mem_map.1 hq
      rcases putM_mem hp with rfl | hp
      · exact hb
      · exact h2.1 _ (List.mem_map.2 ⟨p, hp, rfl⟩)
    · rename_i hb
      split
      · rename_i e; subst e; exact h
      · rename_i e
        have hn : bl n m = true := by
          cases hnm : bl n m with
          | true => rfl
          | false => exact absurd (bl_tot (by simpa using hb) hnm) e
        refine List.pairwise_cons.2 ⟨fun q hq => ?_, h⟩
        rcases List.mem_cons.1 hq with rfl | hq
        · exact hn
        · exact bl_tr hn (h2.1 _ hq)
theorem putM_len (l : VL) (n : ByteArray) (x : Int) : l.length ≤ (putM l n x).length ∧ (putM l n x).length ≤ l.length + 1 := by
  induction l with
  | nil => simp [putM]
  | cons p r ih =>
    obtain ⟨m, y⟩ := p
    unfold putM
    repeat' split
    all_goals simp
    omega
end Go.Proofs.Ytekhfepfaegpaaa
