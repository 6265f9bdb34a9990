/-
  Does a tree ask for a variable; a variable renamed there and back: laws and contracts.
-/
import Derived.Test.YtdnpbnhfakjhoaaRenA
import Derived.Test.YtdnpbnhfakjhoaaWrkA
import Derived.Test.YtdnpbnhfakjhoaaWeigh
namespace Go.Proofs.Ytdnpbnhfakjhoaa
section
open Go.RowKit
set_option linter.unusedVariables false

def askM (nm : Bs) : Nat → Tr → Bool
  | 0, _ => false
  | d + 1, t => decide (t.kind = 2 ∧ t.name = nm) || t.kids.any (askM nm d)
def Asked (nm : Bs) (t : Tr) : Prop := ∃ d, askM nm d t = true
theorem ask_mono {nm : Bs} : ∀ {d e : Nat} {t : Tr}, d ≤ e → askM nm d t = true → askM nm e t = true
  | 0, _, _, _, h => by cases h
  | d + 1, 0, _, h, _ => by omega
  | d + 1, e + 1, t, h, hq => by
    unfold askM at hq ⊢
    simp only [Bool.or_eq_true, List.any_eq_true] at hq ⊢
    rcases hq with hq | ⟨x, hx, hq⟩
    · exact .inl hq
    · exact .inr ⟨x, hx, ask_mono (by omega) hq⟩
theorem asked_iff {nm : Bs} {t : Tr} : Asked nm t ↔ (t.kind = 2 ∧ t.name = nm) ∨ ∃ x ∈ t.kids, Asked nm x := by
  constructor
  · rintro ⟨d, h⟩
    cases d with
    | zero => cases h
    | succ d =>
      unfold askM at h
      simp only [Bool.or_eq_true, decide_eq_true_eq, List.any_eq_true] at h
      rcases h with h | ⟨x, hx, h⟩
      · exact .inl h
      · exact .inr ⟨x, hx, d, h⟩
  · rintro (h | ⟨x, hx, d, h⟩)
    · refine ⟨1, ?_⟩
      unfold askM
      simp only [Bool.or_eq_true, decide_eq_true_eq]
      exact .inl h
    · refine ⟨d + 1, ?_⟩
      unfold askM
      simp only [Bool.or_eq_true, List.any_eq_true]
      exact .inr ⟨x, hx, h⟩
theorem map_same {f : Tr → Tr} {l : List Tr} (h : ∀ x ∈ l, f x = x) : l.map f = l := by
  conv => rhs; rw [← List.map_id l]
  exact List.map_congr_left fun x hx => by rw [h x hx]; rfl
/-- There and back. -/
theorem ren_back {fr to : Bs} : ∀ (d : Nat) (t : Tr), checkM d t = 0 → ¬ Asked to t → renM to fr d (renM fr to d t) = t
  | 0, t, h, _ => by cases h
  | d + 1, t, h, ha => by
    have hs := shape h
    obtain ⟨k, n, nm, ks⟩ := t
    by_cases hk : ks = []
    · subst hk
      have hn : ¬ (k = 2 ∧ nm = to) := fun e => ha (asked_iff.2 (.inl e))
      have h1 : renM fr to (d + 1) ⟨k, n, nm, []⟩ = if k = 2 ∧ nm = fr then ⟨k, n, to, []⟩ else ⟨k, n, nm, []⟩ := by unfold renM; rw [if_pos rfl]
      rw [h1]
      by_cases hf : k = 2 ∧ nm = fr
      · rw [if_pos hf]
        unfold renM
        rw [if_pos rfl, if_pos ⟨hf.1, rfl⟩, hf.2]
      · rw [if_neg hf]
        unfold renM
        rw [if_pos rfl, if_neg hn]
    · have h1 : renM fr to (d + 1) ⟨k, n, nm, ks⟩ = ⟨k, 0, [], ks.map (renM fr to d)⟩ := by
        conv => lhs; unfold renM
        rw [if_neg hk]
      have h2 : renM to fr (d + 1) ⟨k, 0, [], ks.map (renM fr to d)⟩ = ⟨k, 0, [], (ks.map (renM fr to d)).map (renM to fr d)⟩ := by
        conv => lhs; unfold renM
        rw [if_neg (by simpa using hk)]
      rw [h1, h2, List.map_map]
      have h3 : ks.map (renM to fr d ∘ renM fr to d) = ks := map_same fun x hx => ren_back d x ((check_fits h).2 x hx) fun hx2 => ha (asked_iff.2 (.inr ⟨x, hx, hx2⟩))
      rw [h3]
      have hk4 : ¬ k ≤ 4 := by
        intro h4
        rcases hs.kids with ⟨_, e⟩ | ⟨e, _⟩ | ⟨e, _⟩
        · exact hk e
        · simp only at e; omega
        · simp only at e; omega
      have e1 : n = 0 := hs.num0 (by simp only; omega)
      have e2 : nm = [] := hs.name (by simp only; omega)
      rw [e1, e2]
theorem fits_var {k n : Int} {nm to : Bs} (h : fitsM ⟨k, n, nm, []⟩ = true) (hk : k = 2) (hv : fitsM ⟨2, 0, to, []⟩ = true) : fitsM ⟨k, n, to, []⟩ = true := by
  subst hk
  have hn : n = 0 := by
    unfold fitsM at h
    simp only at h
    split at h
    · cases h
    · split at h
      · cases h
      · rename_i h2; omega
  rw [hn]; exact hv
theorem firstBad_of {f : Tr → Nat} : ∀ {l : List Tr}, (∀ x ∈ l, f x = 0) → firstBad f l = 0
  | [], _ => rfl
  | x :: r, h => by
    show (if f x ≠ 0 then f x else firstBad f r) = 0
    rw [if_neg (by simp [h x (List.mem_cons_self ..)])]
    exact firstBad_of fun y hy => h y (List.mem_cons_of_mem _ hy)
theorem check_of {d : Nat} {t : Tr} (h1 : fitsM t = true) (h2 : ∀ x ∈ t.kids, checkM d x = 0) : checkM (d + 1) t = 0 := by
  show (if fitsM t = false then 1 else firstBad (checkM d) t.kids) = 0
  rw [h1, if_neg (by decide)]
  exact firstBad_of h2
theorem ren_checks {fr to : Bs} (hv : fitsM ⟨2, 0, to, []⟩ = true) : ∀ (d : Nat) (t : Tr), checkM d t = 0 → checkM d (renM fr to d t) = 0
  | 0, t, h => by cases h
  | d + 1, t, h => by
    have hs := shape h
    obtain ⟨hf, hkd⟩ := check_fits h
    obtain ⟨k, n, nm, ks⟩ := t
    by_cases hk : ks = []
    · subst hk
      unfold renM
      rw [if_pos rfl]
      split
      · rename_i hc
        exact check_of (fits_var hf hc.1 hv) (by simp)
      · exact h
    · have h1 : renM fr to (d + 1) ⟨k, n, nm, ks⟩ = ⟨k, 0, [], ks.map (renM fr to d)⟩ := by
        conv => lhs; unfold renM
        rw [if_neg hk]
      rw [h1]
      have hk4 : ¬ k ≤ 4 := by
        intro h4
        rcases hs.kids with ⟨_, e⟩ | ⟨e, _⟩ | ⟨e, _⟩
        · exact hk e
        · simp only at e; omega
        · simp only at e; omega
      have e1 : n = 0 := hs.num0 (by simp only; omega)
      have e2 : nm = [] := hs.name (by simp only; omega)
      subst e1; subst e2
      refine check_of ?_ ?_
      · unfold fitsM at hf ⊢
        simpa only [List.length_map] using hf
      · intro x hx
        obtain ⟨y, hy, rfl⟩ := List.mem_map.1 hx
        exact ren_checks hv d y (hkd y hy)
/-- What a tree that may be asks for may be a variable. -/
theorem asked_fits {nm : Bs} : ∀ (d : Nat) (t : Tr), checkM d t = 0 → Asked nm t → checkM 16 ⟨2, 0, nm, []⟩ = 0
  | 0, t, h, _ => by cases h
  | d + 1, t, h, ha => by
    rcases asked_iff.1 ha with ⟨h1, h2⟩ | ⟨x, hx, hq⟩
    · have hs := shape h
      have hk : t.kids = [] := by
        rcases hs.kids with ⟨_, e⟩ | ⟨e, _⟩ | ⟨e, _⟩
        · exact e
        · omega
        · omega
      have hf := (check_fits h).1
      have hn := hs.num0 (by omega)
      obtain ⟨k, n, m, ks⟩ := t
      simp only at h1 h2 hk hn
      subst h1; subst h2; subst hk; subst hn
      exact check_of hf (by simp)
    · exact asked_fits d x ((check_fits h).2 x hx) hq
end
section
open Go.RowKit
set_option linter.unusedVariables false

def AskP (nm : Bs) (t : Tr) (w : World) (e : Ending) (w' : World) : Prop := ∃ b, e = .returned (.bool b) ∧ (b = true ↔ Asked nm t) ∧ Below w.heap.size w w'
def Asking (nm : Bs) (t : Tr) : Prop := ∀ (P : Nat → Prop) (v : Value) (w : World), Tre w P v t → Calls Try.prog 37 #[v, .string (ba nm)] w (AskP nm t w)
set_option maxRecDepth 100000 in
set_option maxHeartbeats 1000000 in
theorem ask_step (nm : Bs) (t : Tr) (ih : ∀ k ∈ t.kids, Asking nm k) : Asking nm t := by
  intro P v w hT
  obtain ⟨a, cap, rfl, hcap, hk, hn, hnm, hlen, hkids⟩ := hT.opened
  have hb : ((ba t.name).toList == (ba nm).toList) = decide (t.name = nm) := by
    rw [ba_toList, ba_toList]
    by_cases h : t.name = nm
    · rw [decide_eq_true h]; simpa using h
    · rw [decide_eq_false h]; simpa using h
  by_cases hq : t.kind = 2 ∧ t.name = nm
  · have HA : Hid (Asked nm t) := asked_iff.2 (.inl hq)
    rw [decide_eq_true hq.2] at hb
    rw [hq.1]
    generalize ba t.name = ts at *
    generalize ba nm = sn at *
    clear hkids hT ih
    go_enter Try.func37, Try.ntmps37
    go_wp2
    go_ret
    exact ⟨true, rfl, ⟨fun _ => HA.out, fun _ => rfl⟩, (Below.refl _ _).alloc (Nat.le_refl _) _⟩
  · have HN : Hid ((∀ j, j < t.kids.length → ¬ Asked nm (t.kids.getD j zeroT)) → ¬ Asked nm t) := fun h ha => by
      rcases asked_iff.1 ha with h1 | ⟨x, hx, h1⟩
      · exact hq h1
      · obtain ⟨j, hj, e⟩ := List.getElem_of_mem hx
        refine h j hj ?_
        rw [List.getD_eq_getElem?_getD, List.getElem?_eq_getElem hj, Option.getD_some, e]
        exact h1
    have HY : Hid (∀ j, j < t.kids.length → Asked nm (t.kids.getD j zeroT) → Asked nm t) := fun j hj h => asked_iff.2 (.inr ⟨_, by rw [List.getD_eq_getElem?_getD, List.getElem?_eq_getElem hj]; exact List.getElem_mem hj, h⟩)
    have HI : Hid (∀ k ∈ t.kids, Asking nm k) := ih
    have HK : Hid (∀ i, i < t.kids.length → ∃ b o ka kc, KidAt w P a i (t.kids.getD i zeroT) b o ka kc) := hkids
    have hfirst : (t.kind == 2) = true ∧ ((ba t.name).toList == (ba nm).toList) = false ∨ (t.kind == 2) = false := by
      by_cases h2 : t.kind = 2
      · left
        refine ⟨by simpa using h2, ?_⟩
        rw [hb, decide_eq_false fun h => hq ⟨h2, h⟩]
      · right; simpa using h2
    clear hkids hT ih hk hn hnm hb hq
    unfold AskP
    generalize Asked nm t = AT at *
    generalize t.n = tn at *
    generalize ba t.name = ts at *
    generalize t.kind = tk at *
    generalize t.kids = ks at *
    rcases hfirst with ⟨hf1, hf2⟩ | hf1
    all_goals (
      unfold Asking at HI
      generalize hsn : ba nm = sn at *
      go_enter Try.func37, Try.ntmps37
      go_wp2_with fail
      have HB0 : Hid (Below w.heap.size w (w.alloc (.cells #[.int .i64 tk, .int .i64 tn, .string ts, .slice a ks.length cap] 24)) ∧ Cell4 (w.alloc (.cells #[.int .i64 tk, .int .i64 tn, .string ts, .slice a ks.length cap] 24)) w.heap.size (.int .i64 tk) (.int .i64 tn) (.string ts) (.slice a ks.length cap)) := ⟨(Below.refl _ _).alloc (Nat.le_refl _) _, Cell4.new _ _ _ _ _ 24⟩
      generalize w.alloc (.cells #[.int .i64 tk, .int .i64 tn, .string ts, .slice a ks.length cap] 24) = w1 at *
      go_loopw [5] (fun v wr => ∃ (i : Nat), i ≤ ks.length ∧ v = .int .i64 i ∧ Hid (Below w.heap.size w wr ∧ Cell4 wr w.heap.size (.int .i64 tk) (.int .i64 tn) (.string ts) (.slice a ks.length cap) ∧ ∀ j, j < i → ¬ Asked nm (ks.getD j zeroT))) (fun v _ => ks.length - (intOf v).toNat)
      case atStart => exact ⟨0, Nat.zero_le _, rfl, HB0.out.1, HB0.out.2, fun j hj => absurd hj (by omega)⟩
      case round =>
        obtain ⟨i, hi, rfl, HR⟩ := hrel
        obtain ⟨q0, q1, q2, q3, q4⟩ := HR.out.2.1
        have hwl : w.heap.size < wr.heap.size := World.block_lt_of_cell? _ _ q0
        by_cases hlt : i < ks.length
        · obtain ⟨b, o, ka, kc, hKA⟩ := HK.out i hlt
          have HKA : Hid (KidAt wr P a i (ks.getD i zeroT) b o ka kc) := hKA.below HR.out.1
          obtain ⟨rfl, m0, m1, m2, m3, hkt⟩ := HKA.out
          have hbl : b < wr.heap.size := World.block_lt_of_cell? wr _ m0
          have HKT : Hid (Tre wr P (.agg #[.int .i64 (ks.getD i zeroT).kind, .int .i64 (ks.getD i zeroT).n, .string (ba (ks.getD i zeroT).name), .slice ka (ks.getD i zeroT).kids.length kc]) (ks.getD i zeroT)) := hkt
          have HC : Hid (∀ w, Tre w P (.agg #[.int .i64 (ks.getD i zeroT).kind, .int .i64 (ks.getD i zeroT).n, .string (ba (ks.getD i zeroT).name), .slice ka (ks.getD i zeroT).kids.length kc]) (ks.getD i zeroT) → Calls Try.prog 37 #[.agg #[.int .i64 (ks.getD i zeroT).kind, .int .i64 (ks.getD i zeroT).n, .string (ba (ks.getD i zeroT).name), .slice ka (ks.getD i zeroT).kids.length kc], .string sn] w (AskP nm (ks.getD i zeroT) w)) := fun w h => HI.out _ (by rw [List.getD_eq_getElem?_getD, List.getElem?_eq_getElem hlt]; exact List.getElem_mem hlt) P _ w h
          have HQ : Hid (¬ Asked nm (ks.getD i zeroT) → ∀ j, j < i + 1 → ¬ Asked nm (ks.getD j zeroT)) := fun h j hj => by
            rcases Nat.lt_succ_iff_lt_or_eq.1 hj with h2 | h2
            · exact HR.out.2.2 j h2
            · rw [h2]; exact h
          have HQ2 : Hid (Asked nm (ks.getD i zeroT) → AT) := HY.out i hlt
          have HW : Hid (Below w.heap.size w wr ∧ Cell4 wr w.heap.size (.int .i64 tk) (.int .i64 tn) (.string ts) (.slice (some ⟨b, o, none⟩) ks.length cap)) := ⟨HR.out.1, HR.out.2.1⟩
          clear hkt hKA HKA HK HI
          unfold AskP at HC
          generalize Asked nm (ks.getD i zeroT) = AK at *
          generalize (ks.getD i zeroT).kind = yk at *
          generalize (ks.getD i zeroT).n = yn at *
          generalize ba (ks.getD i zeroT).name = ys at *
          generalize (ks.getD i zeroT).kids.length = yl at *
          generalize ks.getD i zeroT = y at *
          go_wp2_with (go_at_call 37; refine (HC.out _ HKT.out).mono ?_; rintro e w3 ⟨kb, rfl, hkb, HB⟩; have HKb : Hid (kb = true ↔ AK) := hkb; have HB3 : Hid (Below w.heap.size w w3 ∧ Cell4 w3 w.heap.size (.int .i64 tk) (.int .i64 tn) (.string ts) (.slice (some ⟨b, o, none⟩) ks.length cap)) := ⟨HW.out.1.trans (HB.mono HW.out.1.size), HW.out.2.below HB⟩; clear HB hkb; cases kb)
          · go_roundw
            case rel => exact ⟨i + 1, by omega, by go_num, HB3.out.1, HB3.out.2, HQ.out fun h => absurd (HKb.out.2 h) (by decide)⟩
            case measure => simp [intOf]; omega
          · go_ret
            exact ⟨true, rfl, ⟨fun _ => HQ2.out (HKb.out.1 (by simp)), fun _ => rfl⟩, HB3.out.1⟩
        · have he : i = ks.length := by omega
          subst he
          have HF : Hid (¬ AT ∧ Below w.heap.size w wr) := ⟨HN.out HR.out.2.2, HR.out.1⟩
          clear HR
          go_wp2
          go_ret
          exact ⟨false, rfl, ⟨fun h => absurd h (by decide), fun h => absurd h HF.out.1⟩, HF.out.2⟩)
theorem ask_any (nm : Bs) (t : Tr) : Asking nm t := Tr.ind (ask_step nm) t
set_option maxRecDepth 100000 in
set_option maxHeartbeats 400000 in
theorem Asks_any (nm : Bs) (P : Nat → Prop) (t : Tr) (k n : Int) (s : ByteArray) (a : Option Addr) (l c : Nat) (w : World) (hT : Tre w P (.agg #[.int .i64 k, .int .i64 n, .string s, .slice a l c]) t) : Calls Try.prog 19 #[.agg #[.int .i64 k, .int .i64 n, .string s, .slice a l c], .string (ba nm)] w (AskP nm t w) := by
  have HT : Hid (Tre w P (.agg #[.int .i64 k, .int .i64 n, .string s, .slice a l c]) t) := hT
  have HC : Hid (∀ w, Tre w P (.agg #[.int .i64 k, .int .i64 n, .string s, .slice a l c]) t → Calls Try.prog 37 #[.agg #[.int .i64 k, .int .i64 n, .string s, .slice a l c], .string (ba nm)] w (AskP nm t w)) := fun w h => ask_any nm t P _ w h
  clear hT
  generalize ba nm = sn at *
  go_enter Try.func19, Try.ntmps19
  go_wp2_with (go_at_call 37; refine (HC.out _ (HT.out.alloc _)).mono ?_; rintro e w3 ⟨kb, rfl, hkb, HB⟩)
  go_ret
  exact ⟨kb, rfl, hkb, ((Below.refl _ _).alloc (Nat.le_refl _) _).trans (HB.mono (le_alloc _ _))⟩
end
section
open Go.RowKit
set_option linter.unusedVariables false

/-- What a renaming tells, and what follows of it. -/
theorem ren_told {fr to : Bs} {t y : Tr} {x : Nat} (h : renameM fr to t = (y, x)) (hx : x = 0) : checkM 16 t = 0 ∧ checkM 16 ⟨2, 0, to, []⟩ = 0 ∧ y = renM fr to 16 t := by
  unfold renameM at h
  split at h
  · rename_i hc; injection h with _ h; omega
  · split at h
    · rename_i hc; injection h with _ h; omega
    · rename_i h1 h2
      injection h with h3 h4
      exact ⟨by omega, by omega, h3.symm⟩
theorem var_fits {to : Bs} (h : checkM 16 ⟨2, 0, to, []⟩ = 0) : fitsM ⟨2, 0, to, []⟩ = true := (check_fits (d := 15) h).1
theorem round_back {fr to : Bs} {t y z : Tr} {e f : Nat} (h1 : renameM fr to t = (y, e)) (he : e = 0) (h2 : renameM to fr y = (z, f)) (hf : f = 0) (ha : ¬ Asked to t) : z = t := by
  obtain ⟨c1, c2, rfl⟩ := ren_told h1 he
  obtain ⟨_, _, rfl⟩ := ren_told h2 hf
  exact ren_back 16 t c1 ha
theorem round_none {fr to : Bs} {t y z : Tr} {e f : Nat} (h1 : renameM fr to t = (y, e)) (he : e = 0) (h2 : renameM to fr y = (z, f)) (hf : f ≠ 0) : ¬ Asked fr t := by
  obtain ⟨c1, c2, rfl⟩ := ren_told h1 he
  intro ha
  have h3 := asked_fits 16 t c1 ha
  have h4 := ren_checks (fr := fr) (var_fits c2) 16 t c1
  unfold renameM at h2
  rw [if_neg (by omega), if_neg (by omega)] at h2
  injection h2 with _ h2
  omega
set_option maxRecDepth 100000 in
set_option maxHeartbeats 1600000 in
theorem rnd_walk (t : Tr) (a : Option Addr) (c : Nat) (fr to : Bs) (hto : to.length ≤ 9223372036854775807) (hfr : fr.length ≤ 9223372036854775807) (w : World) (hT : Tre w (fun _ => True) (.agg #[.int .i64 t.kind, .int .i64 t.n, .string (ba t.name), .slice a t.kids.length c]) t) : Calls Try.prog 6 #[.agg #[.int .i64 t.kind, .int .i64 t.n, .string (ba t.name), .slice a t.kids.length c], .string (ba fr), .string (ba to)] w fun e w' => e = .returned (.bool true) ∧ Below w.heap.size w w' := by
  have HT : Hid (Tre w (fun _ => True) (.agg #[.int .i64 t.kind, .int .i64 t.n, .string (ba t.name), .slice a t.kids.length c]) t) := hT
  have H7 : Hid (∀ w, Tre w (fun _ => True) (.agg #[.int .i64 t.kind, .int .i64 t.n, .string (ba t.name), .slice a t.kids.length c]) t → Calls Try.prog 7 #[.agg #[.int .i64 t.kind, .int .i64 t.n, .string (ba t.name), .slice a t.kids.length c]] w fun e w' => ∃ b, e = .returned (.bool b) ∧ Below w.heap.size w w') := fun w h => light_any _ _ _ _ _ _ _ _ w h
  have H8 : Hid (∀ w, Calls Try.prog 8 #[] w fun e w' => e = .returned (.bool true) ∧ Below w.heap.size w w') := works_any
  have H19 : Hid (∀ w, Tre w (fun _ => True) (.agg #[.int .i64 t.kind, .int .i64 t.n, .string (ba t.name), .slice a t.kids.length c]) t → Calls Try.prog 19 #[.agg #[.int .i64 t.kind, .int .i64 t.n, .string (ba t.name), .slice a t.kids.length c], .string (ba to)] w (AskP to t w)) := fun w h => Asks_any to _ t _ _ _ _ _ _ w h
  have H19f : Hid (∀ w, Tre w (fun _ => True) (.agg #[.int .i64 t.kind, .int .i64 t.n, .string (ba t.name), .slice a t.kids.length c]) t → Calls Try.prog 19 #[.agg #[.int .i64 t.kind, .int .i64 t.n, .string (ba t.name), .slice a t.kids.length c], .string (ba fr)] w (AskP fr t w)) := fun w h => Asks_any fr _ t _ _ _ _ _ _ w h
  have H11 : Hid (∀ w, Tre w (fun _ => True) (.agg #[.int .i64 t.kind, .int .i64 t.n, .string (ba t.name), .slice a t.kids.length c]) t → Calls Try.prog 11 #[.agg #[.int .i64 t.kind, .int .i64 t.n, .string (ba t.name), .slice a t.kids.length c], .string (ba fr), .string (ba to)] w (NPost w (renameM fr to t).1 (renameM fr to t).2)) := fun w h => Rename_any fr to hto _ t _ _ _ _ _ _ w h
  obtain ⟨y, ye, hy⟩ : ∃ y ye, renameM fr to t = (y, ye) := ⟨_, _, rfl⟩
  obtain ⟨z, ze, hz⟩ : ∃ z ze, renameM to fr y = (z, ze) := ⟨_, _, rfl⟩
  have H11b : Hid (∀ (k n : Int) (s : ByteArray) (a : Option Addr) (l c : Nat) w P, Tre w P (.agg #[.int .i64 k, .int .i64 n, .string s, .slice a l c]) y → Calls Try.prog 11 #[.agg #[.int .i64 k, .int .i64 n, .string s, .slice a l c], .string (ba to), .string (ba fr)] w (NPost w z ze)) := fun k n s a l c w P h => by
    have := Rename_any to fr hfr P y k n s a l c w h
    rw [hz] at this; exact this
  rw [hy] at H11
  have HBk : Hid (ye = 0 → ze = 0 → ¬ Asked to t → z = t) := fun h1 h2 h3 => round_back hy h1 hz h2 h3
  have HNo : Hid (ye = 0 → ze ≠ 0 → ¬ Asked fr t) := fun h1 h2 => round_none hy h1 hz h2
  have H13 : Hid (z = t → ∀ v u w P Q, Tre w P v t → Tre w Q u z → Calls Try.prog 13 #[v, u] w fun e w' => e = .returned (.bool true) ∧ Below w.heap.size w w') := fun hzt v u w P Q h1 h2 => by
    subst hzt
    exact (rsame_any z P Q z _ _ w h1 h2).mono fun e w' h => ⟨h.1.of_yes rfl, h.2⟩
  clear hT hy hz
  have hfs : (ba fr).size ≤ 9223372036854775807 := by rw [ba_size]; exact hfr
  have hts : (ba to).size ≤ 9223372036854775807 := by rw [ba_size]; exact hto
  unfold AskP at H19 H19f
  generalize Asked to t = AT at *
  generalize Asked fr t = AF at *
  generalize t.kind = tk at *
  generalize t.n = tn at *
  generalize ba t.name = ts at *
  generalize t.kids.length = tl at *
  generalize ba fr = sfr at *
  generalize ba to = sto at *
  clear hto hfr
  by_cases hye : ye = 0
  · subst hye
    by_cases hze : ze = 0
    · subst hze
      have HBk2 : Hid (¬ AT → z = t) := fun h => HBk.out rfl rfl h
      clear HBk HNo
      go_enter Try.func6, Try.ntmps6
      go_wp2_with (first
        | (go_at_call 8; have := M6; refine (H8.out _).mono ?_; rintro e w9 ⟨rfl, HB⟩; have MF : Hid (Below w.heap.size w w9) := M6.out.trans (HB.mono M6.out.size); clear HB M6)
        | (go_at_call 13; have := M4; refine (H13.out (HBk2.out (fun h => absurd (HA2.out.2 h) (by decide))) _ _ _ _ _ ((HT.out.below M4.out.1).alloc _) (M4.out.2.2.alloc _)).mono ?_; rintro e w8 ⟨rfl, HB⟩; have M6 : Hid (Below w.heap.size w w8) := (M4.out.1.alloc M4.out.1.size _).trans (HB.mono (Nat.le_trans M4.out.1.size (le_alloc _ _))); clear HB M4)
        | (go_at_call 11; have := M3; refine (H11b.out _ _ _ _ _ _ _ _ (M3.out.2.2.alloc _)).mono ?_; rintro e w5 ⟨zk, zn, zs, za, zl, zc, rfl, hzt, HB⟩; have M4 : Hid (Below w.heap.size w w5 ∧ Cell4 w5 w.heap.size (.int .i64 tk) (.int .i64 tn) (.string ts) (.slice a tl c) ∧ Tre w5 (fun g => w.heap.size ≤ g) (.agg #[.int .i64 zk, .int .i64 zn, .string zs, .slice za zl zc]) z) := ⟨(M3.out.1.alloc M3.out.1.size _).trans (HB.mono (Nat.le_trans M3.out.1.size (le_alloc _ _))), (M3.out.2.1.alloc _).below HB, hzt.sub (fun g hg => Nat.le_trans (Nat.le_trans M3.out.1.size (le_alloc _ _)) hg)⟩; obtain ⟨q0, q1, q2, q3, q4⟩ := M4.out.2.1; have hq := World.block_lt_of_cell? _ _ q0; have hq2 : w.heap.size < w5.heap.size + 1 := Nat.lt_succ_of_lt hq; clear HB M3 hzt)
        | (go_at_call 11; have := M2; refine (H11.out _ (HT.out.below M2.out.1)).mono ?_; rintro e w4 ⟨yk, yn, ys, ya, yl, yc, rfl, hyt, HB⟩; have M3 : Hid (Below w.heap.size w w4 ∧ Cell4 w4 w.heap.size (.int .i64 tk) (.int .i64 tn) (.string ts) (.slice a tl c) ∧ Tre w4 (fun g => w.heap.size ≤ g) (.agg #[.int .i64 yk, .int .i64 yn, .string ys, .slice ya yl yc]) y) := ⟨M2.out.1.trans (HB.mono M2.out.1.size), M2.out.2.below HB, hyt.sub (fun g hg => Nat.le_trans M2.out.1.size hg)⟩; obtain ⟨q0, q1, q2, q3, q4⟩ := M3.out.2.1; have hq := World.block_lt_of_cell? _ _ q0; clear HB M2 hyt)
        | (go_at_call 8; have := M2; refine (H8.out _).mono ?_; rintro e w9 ⟨rfl, HB⟩; have MF : Hid (Below w.heap.size w w9) := M2.out.1.trans (HB.mono M2.out.1.size); clear HB M2)
        | (go_at_call 19; have := M1; refine (H19.out _ (HT.out.below M1.out.1)).mono ?_; rintro e w2 ⟨ab, rfl, hab, HB⟩; have HA2 : Hid (ab = true ↔ AT) := hab; have M2 : Hid (Below w.heap.size w w2 ∧ Cell4 w2 w.heap.size (.int .i64 tk) (.int .i64 tn) (.string ts) (.slice a tl c)) := ⟨M1.out.1.trans (HB.mono M1.out.1.size), M1.out.2.below HB⟩; obtain ⟨q0, q1, q2, q3, q4⟩ := M2.out.2; have hq := World.block_lt_of_cell? _ _ q0; clear HB M1 hab; cases ab)
        | (go_at_call 8; have := M1; refine (H8.out _).mono ?_; rintro e w9 ⟨rfl, HB⟩; have MF : Hid (Below w.heap.size w w9) := M1.out.1.trans (HB.mono M1.out.1.size); clear HB M1)
        | (go_at_call 7; refine (H7.out _ (HT.out.alloc _)).mono ?_; rintro e w1 ⟨lb, rfl, HB⟩; have M1 : Hid (Below w.heap.size w w1 ∧ Cell4 w1 w.heap.size (.int .i64 tk) (.int .i64 tn) (.string ts) (.slice a tl c)) := ⟨((Below.refl _ _).alloc (Nat.le_refl _) _).trans (HB.mono (le_alloc _ _)), (Cell4.new w _ _ _ _ 24).below HB⟩; obtain ⟨q0, q1, q2, q3, q4⟩ := M1.out.2; have hq := World.block_lt_of_cell? _ _ q0; clear HB; cases lb))
      all_goals go_ret
      all_goals exact ⟨rfl, MF.out⟩
    · have hz2 : ((ze : Int) != 0) = true := by simp; omega
      have HZn : Hid (¬ AF) := HNo.out rfl hze
      clear hze
      go_enter Try.func6, Try.ntmps6
      go_wp2_with (first
        | (go_at_call 8; have := M6; refine (H8.out _).mono ?_; rintro e w9 ⟨rfl, HB⟩; have MF : Hid (Below w.heap.size w w9) := M6.out.trans (HB.mono M6.out.size); clear HB M6)
        | (go_at_call 19; have := M4; refine (H19f.out _ ((HT.out.below M4.out.1).alloc _)).mono ?_; rintro e w7 ⟨fb, rfl, hfb, HB⟩; have hff : fb = false := Bool.eq_false_iff.2 (fun h => HZn.out (hfb.1 h)); subst hff; have M6 : Hid (Below w.heap.size w w7) := (M4.out.1.alloc M4.out.1.size _).trans (HB.mono (Nat.le_trans M4.out.1.size (le_alloc _ _))); clear HB M4 hfb)
        | (go_at_call 11; have := M3; refine (H11b.out _ _ _ _ _ _ _ _ (M3.out.2.2.alloc _)).mono ?_; rintro e w5 ⟨zk, zn, zs, za, zl, zc, rfl, hzt, HB⟩; have M4 : Hid (Below w.heap.size w w5 ∧ Cell4 w5 w.heap.size (.int .i64 tk) (.int .i64 tn) (.string ts) (.slice a tl c) ∧ Tre w5 (fun g => w.heap.size ≤ g) (.agg #[.int .i64 zk, .int .i64 zn, .string zs, .slice za zl zc]) z) := ⟨(M3.out.1.alloc M3.out.1.size _).trans (HB.mono (Nat.le_trans M3.out.1.size (le_alloc _ _))), (M3.out.2.1.alloc _).below HB, hzt.sub (fun g hg => Nat.le_trans (Nat.le_trans M3.out.1.size (le_alloc _ _)) hg)⟩; obtain ⟨q0, q1, q2, q3, q4⟩ := M4.out.2.1; have hq := World.block_lt_of_cell? _ _ q0; have hq2 : w.heap.size < w5.heap.size + 1 := Nat.lt_succ_of_lt hq; clear HB M3 hzt)
        | (go_at_call 11; have := M2; refine (H11.out _ (HT.out.below M2.out.1)).mono ?_; rintro e w4 ⟨yk, yn, ys, ya, yl, yc, rfl, hyt, HB⟩; have M3 : Hid (Below w.heap.size w w4 ∧ Cell4 w4 w.heap.size (.int .i64 tk) (.int .i64 tn) (.string ts) (.slice a tl c) ∧ Tre w4 (fun g => w.heap.size ≤ g) (.agg #[.int .i64 yk, .int .i64 yn, .string ys, .slice ya yl yc]) y) := ⟨M2.out.1.trans (HB.mono M2.out.1.size), M2.out.2.below HB, hyt.sub (fun g hg => Nat.le_trans M2.out.1.size hg)⟩; obtain ⟨q0, q1, q2, q3, q4⟩ := M3.out.2.1; have hq := World.block_lt_of_cell? _ _ q0; clear HB M2 hyt)
        | (go_at_call 8; have := M2; refine (H8.out _).mono ?_; rintro e w9 ⟨rfl, HB⟩; have MF : Hid (Below w.heap.size w w9) := M2.out.1.trans (HB.mono M2.out.1.size); clear HB M2)
        | (go_at_call 19; have := M1; refine (H19.out _ (HT.out.below M1.out.1)).mono ?_; rintro e w2 ⟨ab, rfl, hab, HB⟩; have HA2 : Hid (ab = true ↔ AT) := hab; have M2 : Hid (Below w.heap.size w w2 ∧ Cell4 w2 w.heap.size (.int .i64 tk) (.int .i64 tn) (.string ts) (.slice a tl c)) := ⟨M1.out.1.trans (HB.mono M1.out.1.size), M1.out.2.below HB⟩; obtain ⟨q0, q1, q2, q3, q4⟩ := M2.out.2; have hq := World.block_lt_of_cell? _ _ q0; clear HB M1 hab; cases ab)
        | (go_at_call 8; have := M1; refine (H8.out _).mono ?_; rintro e w9 ⟨rfl, HB⟩; have MF : Hid (Below w.heap.size w w9) := M1.out.1.trans (HB.mono M1.out.1.size); clear HB M1)
        | (go_at_call 7; refine (H7.out _ (HT.out.alloc _)).mono ?_; rintro e w1 ⟨lb, rfl, HB⟩; have M1 : Hid (Below w.heap.size w w1 ∧ Cell4 w1 w.heap.size (.int .i64 tk) (.int .i64 tn) (.string ts) (.slice a tl c)) := ⟨((Below.refl _ _).alloc (Nat.le_refl _) _).trans (HB.mono (le_alloc _ _)), (Cell4.new w _ _ _ _ 24).below HB⟩; obtain ⟨q0, q1, q2, q3, q4⟩ := M1.out.2; have hq := World.block_lt_of_cell? _ _ q0; clear HB; cases lb))
      all_goals go_ret
      all_goals exact ⟨rfl, MF.out⟩
  · have hy2 : ((ye : Int) != 0) = true := by simp; omega
    clear hye
    go_enter Try.func6, Try.ntmps6
    go_wp2_with (first
      | (go_at_call 8; have := M3; refine (H8.out _).mono ?_; rintro e w9 ⟨rfl, HB⟩; have MF : Hid (Below w.heap.size w w9) := (M3.out.1.alloc M3.out.1.size _).trans (HB.mono (Nat.le_trans M3.out.1.size (le_alloc _ _))); clear HB M3)
      | (go_at_call 11; have := M2; refine (H11.out _ (HT.out.below M2.out.1)).mono ?_; rintro e w4 ⟨yk, yn, ys, ya, yl, yc, rfl, hyt, HB⟩; have M3 : Hid (Below w.heap.size w w4 ∧ Cell4 w4 w.heap.size (.int .i64 tk) (.int .i64 tn) (.string ts) (.slice a tl c) ∧ Tre w4 (fun g => w.heap.size ≤ g) (.agg #[.int .i64 yk, .int .i64 yn, .string ys, .slice ya yl yc]) y) := ⟨M2.out.1.trans (HB.mono M2.out.1.size), M2.out.2.below HB, hyt.sub (fun g hg => Nat.le_trans M2.out.1.size hg)⟩; obtain ⟨q0, q1, q2, q3, q4⟩ := M3.out.2.1; have hq := World.block_lt_of_cell? _ _ q0; clear HB M2 hyt)
      | (go_at_call 8; have := M2; refine (H8.out _).mono ?_; rintro e w9 ⟨rfl, HB⟩; have MF : Hid (Below w.heap.size w w9) := M2.out.1.trans (HB.mono M2.out.1.size); clear HB M2)
      | (go_at_call 19; have := M1; refine (H19.out _ (HT.out.below M1.out.1)).mono ?_; rintro e w2 ⟨ab, rfl, hab, HB⟩; have HA2 : Hid (ab = true ↔ AT) := hab; have M2 : Hid (Below w.heap.size w w2 ∧ Cell4 w2 w.heap.size (.int .i64 tk) (.int .i64 tn) (.string ts) (.slice a tl c)) := ⟨M1.out.1.trans (HB.mono M1.out.1.size), M1.out.2.below HB⟩; obtain ⟨q0, q1, q2, q3, q4⟩ := M2.out.2; have hq := World.block_lt_of_cell? _ _ q0; clear HB M1 hab; cases ab)
      | (go_at_call 8; have := M1; refine (H8.out _).mono ?_; rintro e w9 ⟨rfl, HB⟩; have MF : Hid (Below w.heap.size w w9) := M1.out.1.trans (HB.mono M1.out.1.size); clear HB M1)
      | (go_at_call 7; refine (H7.out _ (HT.out.alloc _)).mono ?_; rintro e w1 ⟨lb, rfl, HB⟩; have M1 : Hid (Below w.heap.size w w1 ∧ Cell4 w1 w.heap.size (.int .i64 tk) (.int .i64 tn) (.string ts) (.slice a tl c)) := ⟨((Below.refl _ _).alloc (Nat.le_refl _) _).trans (HB.mono (le_alloc _ _)), (Cell4.new w _ _ _ _ 24).below HB⟩; obtain ⟨q0, q1, q2, q3, q4⟩ := M1.out.2; have hq := World.block_lt_of_cell? _ _ q0; clear HB; cases lb))
    all_goals go_ret
    all_goals exact ⟨rfl, MF.out⟩
end
end Go.Proofs.Ytdnpbnhfakjhoaa
