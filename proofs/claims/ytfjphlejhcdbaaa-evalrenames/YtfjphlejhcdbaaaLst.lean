/-
  Variables with one more, as the document's Of makes them: what lies where.
-/
import Derived.Test.YtfjphlejhcdbaaaLaw1
namespace Go.Proofs.Ytfjphlejhcdbaaa
open Go.RowKit
set_option linter.unusedVariables false

theorem RdLnew2 {w : World} {s1 s2 s3 s4 : Value} {x y : V.VP} (h1 : V.RdV w (.agg #[s1, s2]) x.1 x.2) (h2 : V.RdV w (.agg #[s3, s4]) y.1 y.2) : V.RdL (w.alloc (.cells #[s1, s2, s3, s4] 28)) (.slice (some ⟨w.heap.size, 0, none⟩) 2 2) [x, y] :=
  rdl_two (h1.below (below_one _ _)) (h2.below (below_one _ _)) (heap_alloc_new w _)
/-- What a block with a result is like. -/
def Fin4 (B : Nat) (WC w9 : World) (q : Nat) (s1 s2 : Value) (C : V.VL) : Prop := Below B WC w9 ∧ V.Two w9 q s1 s2 ∧ V.RdV w9 (.agg #[s1, s2]) (V.nmsOf C) (V.valsOf C)
theorem fin_set {B q base : Nat} {WC w8 : World} {s1 s2 x1 x2 : Value} {C : V.VL} (ht : V.Two w8 q x1 x2) (ho : V.OwV w8 base (.agg #[s1, s2]) C) (hq : q < base) (hB : Below B WC w8) (hqB : B ≤ q) : Fin4 B WC ((w8.setCell ⟨q, 0, none⟩ s1).setCell ⟨q, 1, none⟩ s2) q s1 s2 C :=
  ⟨Below.setCell (B := B) (Below.setCell (B := B) hB (p := ⟨q, 0, none⟩) hqB _) (p := ⟨q, 1, none⟩) hqB _, V.two_set1 (V.two_set0 ht _) _, ((ho.set q 0 _ hq).set q 1 _ hq).read⟩
theorem fin_a {B q : Nat} {WC w7 w8 : World} {o : Obj} {s1 s2 : Value} {C : V.VL} (ht : V.Two w7 q (.slice none 0 0) (.slice none 0 0)) (hb : Below (w7.alloc o).heap.size (w7.alloc o) w8) (ho : V.OwV w8 (w7.alloc o).heap.size (.agg #[s1, s2]) C) (hB : Below B WC w7) (hqB : B ≤ q) : V.Two w8 q (.slice none 0 0) (.slice none 0 0) ∧ Fin4 B WC ((w8.setCell ⟨q, 0, none⟩ s1).setCell ⟨q, 1, none⟩ s2) q s1 s2 C := by
  have hlt := ht.lt
  have t8 := (ht.alloc o).below hb
  have hsz := size_alloc w7 o
  exact ⟨t8, fin_set t8 ho (by omega) ((hB.alloc (by omega) o).trans (hb.mono (by omega))) hqB⟩
theorem fin_b {B : Nat} {WC w7 w8 : World} {o : Obj} {s1 s2 : Value} {C : V.VL} (hb : Below ((w7.alloc (.cells #[.slice none 0 0, .slice none 0 0] 28)).alloc o).heap.size ((w7.alloc (.cells #[.slice none 0 0, .slice none 0 0] 28)).alloc o) w8) (ho : V.OwV w8 ((w7.alloc (.cells #[.slice none 0 0, .slice none 0 0] 28)).alloc o).heap.size (.agg #[s1, s2]) C) (hB : Below B WC w7) (hqB : B ≤ w7.heap.size) : V.Two w8 w7.heap.size (.slice none 0 0) (.slice none 0 0) ∧ Fin4 B WC ((w8.setCell ⟨w7.heap.size, 0, none⟩ s1).setCell ⟨w7.heap.size, 1, none⟩ s2) w7.heap.size s1 s2 C :=
  fin_a (V.Two.new w7 _ _ 28) hb ho (hB.alloc hqB _) hqB
theorem fin_c {B : Nat} {WC w7 w8 : World} {o : Obj} {s1 s2 : Value} {C : V.VL} (hb : Below ((w7.alloc o).alloc (.cells #[.slice none 0 0, .slice none 0 0] 28)).heap.size ((w7.alloc o).alloc (.cells #[.slice none 0 0, .slice none 0 0] 28)) w8) (ho : V.OwV w8 ((w7.alloc o).alloc (.cells #[.slice none 0 0, .slice none 0 0] 28)).heap.size (.agg #[s1, s2]) C) (hB : Below B WC w7) (hqB : B ≤ w7.heap.size) : V.Two w8 (w7.heap.size + 1) (.slice none 0 0) (.slice none 0 0) ∧ Fin4 B WC ((w8.setCell ⟨w7.heap.size + 1, 0, none⟩ s1).setCell ⟨w7.heap.size + 1, 1, none⟩ s2) (w7.heap.size + 1) s1 s2 C := by
  have ht := V.Two.new (w7.alloc o) (.slice none 0 0) (.slice none 0 0) 28
  have hsz := size_alloc w7 o
  have hs2 := size_alloc (w7.alloc o) (.cells #[.slice none 0 0, .slice none 0 0] 28)
  rw [hsz] at ht
  have t8 := ht.below hb
  exact ⟨t8, fin_set t8 ho (by omega) (((hB.alloc hqB o).alloc (by omega) _).trans (hb.mono (by omega))) (by omega)⟩
theorem fin_d {B : Nat} {WC w7 w8 : World} {o : Obj} {s1 s2 : Value} {C : V.VL} (hb : Below (w7.alloc o).heap.size (w7.alloc o) w8) (ho : V.OwV w8 (w7.alloc o).heap.size (.agg #[s1, s2]) C) (hB : Below B WC w7) (hqB : B ≤ w7.heap.size) : Fin4 B WC (w8.alloc (.cells #[s1, s2] 28)) w8.heap.size s1 s2 C := by
  have hsz := size_alloc w7 o
  have h8 := hb.size
  exact ⟨((hB.alloc hqB o).trans (hb.mono (by omega))).alloc (by omega) _, V.Two.new w8 _ _ 28, ho.read.below (below_one _ _)⟩
/-- The list of two for Of, in the three ways that it may come. -/
theorem rdl_b {w7 : World} {x y : V.VP} {s1 s2 s3 s4 : Value} {o : Obj} (h1 : V.RdV w7 (.agg #[s1, s2]) x.1 x.2) (h2 : V.RdV w7 (.agg #[s3, s4]) y.1 y.2) : V.RdL ((w7.alloc o).alloc (.cells #[s1, s2, s3, s4] 28)) (.slice (some ⟨w7.heap.size + 1, 0, none⟩) 2 2) [x, y] := by
  have h := RdLnew2 (h1.below (below_one w7 o)) (h2.below (below_one w7 o))
  rwa [size_alloc] at h
theorem rdl_c {w7 : World} {x y : V.VP} {s1 s2 s3 s4 : Value} {o : Obj} (h1 : V.RdV w7 (.agg #[s1, s2]) x.1 x.2) (h2 : V.RdV w7 (.agg #[s3, s4]) y.1 y.2) : V.RdL ((w7.alloc (.cells #[s1, s2, s3, s4] 28)).alloc o) (.slice (some ⟨w7.heap.size, 0, none⟩) 2 2) [x, y] := (RdLnew2 h1 h2).below (below_one _ _)
theorem new_a {WC w7 : World} (h : Below (WC.alloc (.cells #[.slice none 0 0, .slice none 0 0] 28)).drew.heap.size (WC.alloc (.cells #[.slice none 0 0, .slice none 0 0] 28)).drew w7) : V.Two w7 WC.heap.size (.slice none 0 0) (.slice none 0 0) ∧ Below WC.heap.size WC w7 := by
  have b1 : Below WC.heap.size WC (WC.alloc (.cells #[.slice none 0 0, .slice none 0 0] 28)).drew := Below.drew (below_one _ _)
  exact ⟨(V.Two.new WC _ _ 28).below (V.below_drew h), b1.trans (h.mono b1.size)⟩
theorem new_b {WC w7 : World} (h : Below WC.drew.heap.size WC.drew w7) : Below WC.heap.size WC w7 := V.below_drew h
theorem new_w8a {WC w7 w8 : World} {o : Obj} (h : Below WC.heap.size WC w7) (hb : Below (w7.alloc o).heap.size (w7.alloc o) w8) : Below WC.heap.size WC w8 := (one_bel h o hb).1
theorem new_w8b {WC w7 w8 : World} {o o' : Obj} (h : Below WC.heap.size WC w7) (hb : Below ((w7.alloc o).alloc o').heap.size ((w7.alloc o).alloc o') w8) : Below WC.heap.size WC w8 := (two_bel h o o' hb).1
/-- The document's Of, of two: what it owns. -/
theorem of2_own {x y : V.VP} (hx : ∀ n ∈ x.1, n.size ≤ 9223372036854775807) (hy : ∀ n ∈ y.1, n.size ≤ 9223372036854775807) (w : World) (v : Value) (h : V.RdL w v [x, y]) :
    Calls Try.prog 19 #[v] w fun e w' => ∃ b1 d1 b2 d2, e = .returned (.tuple #[.agg #[.slice b1 (V.ofM [x, y]).2.length d1, .slice b2 (V.ofM [x, y]).2.length d2], .int .i64 ((V.ofM [x, y]).1 : Nat)]) ∧ V.OwV w' w.heap.size (.agg #[.slice b1 (V.ofM [x, y]).2.length d1, .slice b2 (V.ofM [x, y]).2.length d2]) (V.ofM [x, y]).2 ∧ Below w.heap.size w w' := by
  refine (V.rOf_of put_ok [x, y] _ w h (by
    intro z hz n hn
    simp only [List.mem_cons, List.not_mem_nil, or_false] at hz
    rcases hz with rfl | rfl
    · exact hx n hn
    · exact hy n hn) (by simp)).mono ?_
  rintro e w' ⟨r, rfl, h7, hb⟩
  obtain ⟨sn, sv, rfl, r1, r2⟩ := h7
  obtain ⟨b1, d1, e1⟩ := (V.Rd.of_own r1).form
  obtain ⟨b2, d2, e2⟩ := (V.Rd.of_own r2).form
  rw [V.strsV_len, V.nmsOf_len] at e1
  rw [V.intsV_len, V.valsOf_len] at e2
  subst e1
  subst e2
  exact ⟨b1, d1, b2, d2, rfl, ⟨_, _, rfl, r1, r2⟩, hb⟩
theorem more_in {v : V.VP} {nm : ByteArray} {n : Int} {A : V.VL} (h : V.ofM [v, ([nm], [n])] = (0, A)) (hv : ∀ x ∈ v.2, InR x) (hn : InR n) : (∀ x ∈ V.nmsOf A, x.size ≤ 9223372036854775807) ∧ (∀ x ∈ V.valsOf A, InR x) ∧ V.chk (V.nmsOf A) (V.valsOf A) = 0 := by
  obtain ⟨_, _, h3, h4, _⟩ := V.last_math h
  refine ⟨fun x hx => ?_, fun x hx => ?_, h3⟩
  · obtain ⟨p, hp, rfl⟩ := List.mem_map.1 hx
    have := (V.isVar_pos (h4 p hp)).2
    omega
  · obtain ⟨p, hp, rfl⟩ := List.mem_map.1 hx
    unfold V.ofM at h
    split at h
    · rename_i he
      injection h with h1 h2
      exact absurd h1 he
    · split at h
      · injection h with h1 h2
        exact absurd h1 (by decide)
      · injection h with h1 h2
        rw [← h2] at hp
        have e1 : V.allM [v, ([nm], [n])] = V.putAll (V.putAll [] (V.zipV v)) [(nm, n)] := rfl
        rw [e1] at hp
        rcases V.putAll_mem hp with hp | hp
        · rcases V.putAll_mem hp with hp | hp
          · cases hp
          · unfold V.zipV at hp
            exact hv _ (List.of_mem_zip hp).2
        · simp only [List.mem_singleton] at hp
          rw [hp]
          exact hn
/-- Of what a condition asks for, variables with one more, that it does not ask for, say the same. -/
theorem more_env {ns : List ByteArray} {vs : List Int} {nm : Bs} {n : Int} {A : V.VL} (h : V.ofM [(ns, vs), ([ba nm], [n])] = (0, A)) {m : Bs} : envN (V.nmsOf A) (V.valsOf A) m = if m = nm then some n else envN ns vs m := by
  have h1 := one_more h (ba m)
  have e1 : envN (V.nmsOf A) (V.valsOf A) m = V.look A (ba m) := by
    unfold envN envL
    rw [V.zip_self]
  rw [e1, h1]
  by_cases hm : m = nm
  · rw [if_pos hm, if_pos (by rw [hm])]
  · rw [if_neg hm, if_neg (fun e => hm (by have := congrArg ByteArray.toList e; rw [ba_toList, ba_toList] at this; exact this.symm))]
    rfl
end Go.Proofs.Ytfjphlejhcdbaaa
