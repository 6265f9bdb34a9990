/-
  The document's reader: Text: its contract.
-/
import Derived.Test.YtcaddedkodjgcaaKrd
namespace Go.Proofs.Ytcaddedkodjgcaa
open Go.RowKit Pack
set_option linter.unusedVariables false
set_option linter.unusedSimpArgs false

set_option maxRecDepth 100000 in
theorem rreadBytes_okN (v : Value) (l : List (BitVec 8)) (k m : Nat) (w : World) (h : ReadsV w v l) (hk : rd 0 l = .ok k) (hm : val (l.take k) = m) (hlt : m ≤ l.length - k) :
    Calls Try.prog 58 #[v] w fun e w' => ∃ sv, e = .returned (.tuple #[sv, .int .i64 ((k : Int) + m), .int .i64 0]) ∧ (∀ w2, ReadsV w2 v l → ReadsV w2 sv ((l.drop k).take m)) ∧ w' = w := by
  have HR : Hid (ReadsV w v l) := h
  have HK : Hid (rd 0 l = .ok k) := hk
  have HM : Hid (val (l.take k) = m) := hm
  have hm64 : m < 18446744073709551616 := by rw [← hm]; exact (rd0_ok hk).2.2.2.2
  have hkl := (rd0_ok hk).2.1
  obtain ⟨a, c, rfl, _, hlc, hcm, hr⟩ := h
  obtain ⟨n, hn⟩ : ∃ n, l.length = n := ⟨_, rfl⟩
  rw [hn] at HR hlc hlt hkl ⊢
  rw [maxLen_eq] at hcm
  have hlt' : ¬ (n : Int) - k < m := by omega
  clear hk hm hn hr hlt
  go_enter Try.func58, Try.ntmps58
  go_wp2_with (go_at_call 49; refine (rreadUint_ok _ l k m _ HR.out HK.out HM.out).mono ?_; rintro e w' ⟨rfl, rfl⟩)
  · go_ret3
    exact ⟨_, rfl, fun w2 h2 => piece0 h2 hkl (by omega) (by first | rfl | assumption), rfl⟩
  · have hc : ¬ c = k := by assumption
    go_ret3
    exact ⟨_, rfl, fun w2 h2 => piece h2 hkl (by omega) hc, rfl⟩
/-- The block of a slice. -/
def SB : Value → Nat → Prop
  | .slice (some x) _ _, g => x.block = g
  | _, _ => False
/-- What reads wherever v reads as b lies in v's block. -/
theorem same_block {w0 : World} {a da : Option Addr} {n c m dc : Nat} {b d : BB} (h0 : ReadsV w0 (.slice a n c) b) (h : ∀ w2, ReadsV w2 (.slice a n c) b → ReadsV w2 (.slice da m dc) d) : d ≠ [] → ∀ x, da = some x → SB (.slice a n c) x.block := by
  intro hd x hx
  have hm : ∀ w2, ReadsV w2 (.slice da m dc) d → 0 < m := fun w2 q => by
    obtain ⟨a', c', hv, _⟩ := q
    cases hv
    exact List.length_pos_iff.2 hd
  cases a with
  | none =>
    have hb : b = [] := by
      obtain ⟨a', c', hv, h1, h2, _⟩ := h0
      cases hv
      have := h1 rfl
      exact List.length_eq_zero_iff.1 (by omega)
    have q := h { w0 with heap := #[] } (readsV_kept h0 fun e => absurd hb e)
    obtain ⟨b1, o1, e2, e3, _⟩ := cells_of q (hm _ q)
    exact absurd e3 (Nat.not_lt_zero _)
  | some y =>
    show y.block = x.block
    refine Classical.byContradiction fun hne => ?_
    by_cases hlt : x.block < w0.heap.size
    · have q := h { w0 with heap := w0.heap.set x.block (.cells #[] 0) hlt } (readsV_kept h0 fun _ z hz => by
        cases hz
        show (w0.heap.set x.block (.cells #[] 0) hlt)[y.block]? = _
        rw [Array.getElem?_set]
        rw [if_neg (fun e => hne e.symm)])
      obtain ⟨b1, o1, e2, e3, hc⟩ := cells_of q (hm _ q)
      rw [hx] at e2
      cases e2
      have h1 := hc 0 (hm _ q)
      have h2 : (w0.heap.set b1 (.cells #[] 0) hlt)[b1]? = some (.cells #[] 0) := by rw [Array.getElem?_set]; simp
      unfold World.cell? at h1
      simp [h2] at h1
    · have q := h w0 h0
      obtain ⟨b1, o1, e2, e3, _⟩ := cells_of q (hm _ q)
      rw [hx] at e2
      cases e2
      exact hlt e3
structure SrcV (w0 : World) (v : Value) (da : Option Addr) (dc : Nat) (d : BB) : Prop where
  r : ReadsV w0 (.slice da d.length dc) d
  s : d ≠ [] → ∀ x, da = some x → SB v x.block
/-- What Text answers. -/
def TxP (w0 w : World) (K : Nat) (v : Value) (b : BB) (d : BB) (s : St) (e : Ending) (w' : World) : Prop := ∃ da dc, e = .returned (.slice da d.length dc) ∧ SrcV w0 v da dc d ∧ Rdg w0 w' K v b s ∧ Kx K w w'
set_option maxRecDepth 100000 in
set_option maxHeartbeats 800000 in
theorem Text_bad {w0 w : World} {K : Nat} {v : Value} {b : BB} {s : St} (h : Rdg w0 w K v b s) (hs : ¬ s.2 = 0) : Calls Try.prog 50 #[.pointer (some ⟨K, 0, none⟩)] w (TxP w0 w K v b (txtS s).1 (txtS s).2) := by
  have e0 : txtS s = ([], s) := by unfold txtS; rw [if_neg hs]
  rw [e0]
  have HR : Hid (Rdg w0 w K v b s) := h
  obtain ⟨k, h1, h2, c0, c1, c2, cf⟩ := h.c
  have y1 : (s.2 == 0) = false := beq_eq_false_iff_ne.2 hs
  have y2 : (s.2 != 0) = true := by rw [bne, y1]; rfl
  clear h h1 h2 hs e0
  generalize s.2 = er at *
  go_enter Try.func50, Try.ntmps50
  go_wp2
  go_ret
  exact ⟨none, 0, rfl, ⟨ReadsV.nil _, fun h => absurd rfl h⟩, HR.out, Kx.refl _ _⟩
set_option maxRecDepth 100000 in
set_option maxHeartbeats 800000 in
theorem Text_go {w0 w : World} {K : Nat} {v : Value} {b : BB} {s : St} (h : Rdg w0 w K v b s) (hs : s.2 = 0) {J : Nat} {C : Int} {d : BB} (hu : ∀ wx u, ReadsV wx u s.1 → Calls Try.prog 58 #[u] wx fun e w' => ∃ sv, e = .returned (.tuple #[sv, .int .i64 J, .int .i64 C]) ∧ (∀ w2, ReadsV w2 u s.1 → ReadsV w2 sv d) ∧ w' = wx)
    {s' : St} (hq : (C = 0 ∧ J ≤ s.1.length ∧ s' = (s.1.drop J, 0)) ∨ (¬ C = 0 ∧ d = [] ∧ s' = (s.1, C))) :
    Calls Try.prog 50 #[.pointer (some ⟨K, 0, none⟩)] w (TxP w0 w K v b d s') := by
  obtain ⟨k, h1, h2, c0, c1, c2, cf⟩ := h.c
  obtain ⟨a, c, rfl, hnil, hlc, hcm, hrd⟩ := h.reads
  have hlt := h.lt
  have hcm2 : c ≤ 9223372036854775807 := hcm
  have HT : Hid (∀ x : Int, k + J ≤ b.length → C = 0 → s' = (b.drop (k + J), 0) → x = (k : Int) + J → Rdg w0 (w.setCell ⟨K, 1, none⟩ (.int .i64 x)) K (.slice a b.length c) b s' ∧ Kx K w (w.setCell ⟨K, 1, none⟩ (.int .i64 x))) := fun x q1 q2 q3 q4 => h.to (k := k) (e := 0) ⟨c0, c1, by rw [hs] at c2; exact c2, cf⟩ q1 q3 q4
  have HX : Hid (∀ x : Int, s' = (b.drop k, x) → Rdg w0 (w.setCell ⟨K, 2, none⟩ (.int .i64 x)) K (.slice a b.length c) b s' ∧ Kx K w (w.setCell ⟨K, 2, none⟩ (.int .i64 x))) := fun x q => h.err (k := k) (e := 0) ⟨c0, c1, by rw [hs] at c2; exact c2, cf⟩ h1 q
  have HR : Hid (ReadsV w (.slice a b.length c) b) := h.reads
  have HR0 : Hid (ReadsV w0 (.slice a b.length c) b) := h.r
  have HU : Hid (∀ wx u, ReadsV wx u (b.drop k) → Calls Try.prog 58 #[u] wx fun e w' => ∃ sv, e = .returned (.tuple #[sv, .int .i64 J, .int .i64 C]) ∧ (∀ w2, ReadsV w2 u (b.drop k) → ReadsV w2 sv d) ∧ w' = wx) := fun wx u q => by have := hu wx u (by rw [h2]; exact q); rw [h2] at this; exact this
  rw [hs] at c2
  rw [h2] at hq
  have hcases : c = k ∨ ¬ c = k := by omega
  have HTail : Hid (∀ u, (c = k ∧ (∃ a' m, m = 0 ∧ u = .slice a' m 0) ∨ (¬ c = k ∧ u = .slice (a.map (fun x => x.add k)) (b.length - k) (c - k))) → ∀ wx, ReadsV wx (.slice a b.length c) b → ReadsV wx u (b.drop k)) := fun u hu wx hr => by
    rcases hu with ⟨q1, a', m, rfl, rfl⟩ | ⟨q1, rfl⟩
    · exact tailB hr (by omega)
    · exact tailA hr h1 q1
  have HS : Hid (∀ {sv : Value} {e : Ending} {w' : World}, (∀ w2, ReadsV w2 (.slice a b.length c) b → ReadsV w2 sv d) → e = .returned sv → Rdg w0 w' K (.slice a b.length c) b s' ∧ Kx K w w' → TxP w0 w K (.slice a b.length c) b d s' e w') := fun q1 q2 q3 => by
    have q4 := q1 w0 HR0.out
    obtain ⟨da, dc, e1, _⟩ := id q4
    subst e1
    exact ⟨da, dc, q2, ⟨q4, same_block HR0.out q1⟩, q3⟩
  clear hu h
  rcases hq with ⟨rfl, q2, rfl⟩ | ⟨q1, rfl, rfl⟩
  · have HF : Hid (∀ x : Int, x = (k : Int) + J → Rdg w0 (w.setCell ⟨K, 1, none⟩ (.int .i64 x)) K (.slice a b.length c) b (List.drop J (List.drop k b), 0) ∧ Kx K w (w.setCell ⟨K, 1, none⟩ (.int .i64 x))) := fun x q => HT.out x (by rw [List.length_drop] at q2; omega) rfl (by rw [List.drop_drop]) q
    have hJ : J ≤ b.length - k := by rw [List.length_drop] at q2; exact q2
    have hl2 : b.length ≤ c := hlc
    clear HT HX hs hnil hrd hlc q2
    generalize hn : b.length = n at *
    generalize (List.drop J (List.drop k b), (0 : Int)) = sf at *
    rcases hcases with hck | hck
    all_goals (
      go_enter Try.func50, Try.ntmps50
      go_wp2
      go_region_held3 (fun w' => w'.cell? ⟨K, 0, none⟩ = some (.slice a n c) ∧ w'.cell? ⟨K, 1, none⟩ = some (.int .i64 k)) (go_keep) (first
        | (go_at_call 58; refine (HU.out _ _ (HTail.out _ (by first | exact .inr ⟨hck, rfl⟩ | exact .inl ⟨hck, _, _, by omega, rfl⟩) _ (HR.out.below (Below.refl _ _).drew))).mono ?_; rintro e w1 ⟨sv, rfl, hv, rfl⟩; have HV : Hid (∀ w2, ReadsV w2 (.slice a n c) b → ReadsV w2 sv d) := fun w2 q9 => hv _ (HTail.out _ (by first | exact .inr ⟨hck, rfl⟩ | exact .inl ⟨hck, _, _, by omega, rfl⟩) _ q9); clear hv))
      go_wp2
      go_ret
      exact HS.out HV.out rfl (Rdg.drawn (HF.out _ (by go_num)) 1))
  · have HF : Hid (Rdg w0 (w.setCell ⟨K, 2, none⟩ (.int .i64 C)) K (.slice a b.length c) b (List.drop k b, C) ∧ Kx K w (w.setCell ⟨K, 2, none⟩ (.int .i64 C))) := HX.out C rfl
    have y1 : (C == 0) = false := beq_eq_false_iff_ne.2 q1
    have y2 : (C != 0) = true := by rw [bne, y1]; rfl
    have hl2 : b.length ≤ c := hlc
    clear HT HX hs hnil hrd hlc q1
    generalize hn : b.length = n at *
    generalize (List.drop k b, C) = sf at *
    rcases hcases with hck | hck
    all_goals (
      go_enter Try.func50, Try.ntmps50
      go_wp2
      go_region_held3 (fun w' => w'.cell? ⟨K, 0, none⟩ = some (.slice a n c) ∧ w'.cell? ⟨K, 1, none⟩ = some (.int .i64 k)) (go_keep) (first
        | (go_at_call 58; refine (HU.out _ _ (HTail.out _ (by first | exact .inr ⟨hck, rfl⟩ | exact .inl ⟨hck, _, _, by omega, rfl⟩) _ (HR.out.below (Below.refl _ _).drew))).mono ?_; rintro e w1 ⟨sv, rfl, hv, rfl⟩; clear hv))
      go_wp2
      go_ret
      exact HS.out (fun _ _ => ReadsV.nil _) rfl (Rdg.drawn HF.out 1))
theorem Text_any {w0 w : World} {K : Nat} {v : Value} {b : BB} {s : St} (h : Rdg w0 w K v b s) : Calls Try.prog 50 #[.pointer (some ⟨K, 0, none⟩)] w (TxP w0 w K v b (txtS s).1 (txtS s).2) := by
  by_cases hs : s.2 = 0
  · cases hr : rd 0 s.1 with
    | inl k =>
      obtain ⟨_, h2, _, _, h5⟩ := rd0_ok hr
      by_cases hn : val (s.1.take k) ≤ s.1.length - k
      · have e0 : txtS s = ((s.1.drop k).take (val (s.1.take k)), (s.1.drop (k + val (s.1.take k)), 0)) := by
          unfold txtS; rw [if_pos hs, hr]; simp only; rw [if_pos hn]
        rw [e0]
        exact Text_go h hs (J := k + val (s.1.take k)) (C := 0) (fun wx u hu => by have := rreadBytes_okN _ _ k _ _ hu hr rfl hn; rw [show ((k : Int) + (val (s.1.take k) : Nat)) = ((k + val (s.1.take k) : Nat) : Int) by omega] at this; exact this) (.inl ⟨rfl, by omega, rfl⟩)
      · have e0 : txtS s = ([], (s.1, 5)) := by
          unfold txtS; rw [if_pos hs, hr]; simp only; rw [if_neg hn]
        rw [e0]
        exact Text_go h hs (J := 0) (C := 5) (fun wx u hu => (rreadBytes_short _ _ k _ _ hu hr rfl (by omega)).mono fun e w' ⟨z1, z2⟩ => ⟨_, z1, fun w2 _ => ReadsV.nil w2, z2⟩) (.inr ⟨by decide, rfl, rfl⟩)
    | inr x =>
      have hne : ∀ k, rd 0 s.1 ≠ .ok k := fun k e => by rw [hr] at e; cases e
      have e0 : txtS s = ([], (s.1, code (rd 0 s.1))) := by
        unfold txtS; rw [if_pos hs, hr]; cases x <;> rfl
      rw [e0]
      exact Text_go h hs (J := 0) (C := code (rd 0 s.1)) (fun wx u hu => (rreadBytes_err _ _ _ _ hu hne rfl).mono fun e w' ⟨z1, z2⟩ => ⟨_, z1, fun w2 _ => ReadsV.nil w2, z2⟩) (.inr ⟨by have := code_ne hne; omega, rfl, rfl⟩)
  · exact Text_bad h hs
end Go.Proofs.Ytcaddedkodjgcaa
