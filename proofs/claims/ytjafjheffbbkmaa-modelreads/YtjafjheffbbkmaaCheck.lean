/-
  What is wrong with a tree: contracts.
-/
import Derived.Test.YtjafjheffbbkmaaFits
namespace Go.Proofs.Ytjafjheffbbkmaa
open Go.RowKit
set_option linter.unusedVariables false



/-- The four cells of a tree that lies in a row. -/
structure KidAt (w : World) (P : Nat → Prop) (a : Option Addr) (i : Nat) (x : Tr) (b o : Nat) (ka : Option Addr) (kc : Nat) : Prop where
  ad : a = some ⟨b, o, none⟩
  c0 : w.cell? ⟨b, o + i * 4, none⟩ = some (.int .i64 x.kind)
  c1 : w.cell? ⟨b, o + i * 4 + 1, none⟩ = some (.int .i64 x.n)
  c2 : w.cell? ⟨b, o + i * 4 + 2, none⟩ = some (.string (ba x.name))
  c3 : w.cell? ⟨b, o + i * 4 + 3, none⟩ = some (.slice ka x.kids.length kc)
  tre : Tre w P (.agg #[.int .i64 x.kind, .int .i64 x.n, .string (ba x.name), .slice ka x.kids.length kc]) x
theorem KidAt.below {w w' : World} {P : Nat → Prop} {a : Option Addr} {i : Nat} {x : Tr} {b o : Nat} {ka : Option Addr} {kc : Nat} (h : KidAt w P a i x b o ka kc) (hf : Below w.heap.size w w') : KidAt w' P a i x b o ka kc := by
  have hlt : b < w.heap.size := World.block_lt_of_cell? w _ h.c0
  exact ⟨h.ad, (hf.cell (p := ⟨b, _, none⟩) hlt).trans h.c0, (hf.cell (p := ⟨b, _, none⟩) hlt).trans h.c1, (hf.cell (p := ⟨b, _, none⟩) hlt).trans h.c2, (hf.cell (p := ⟨b, _, none⟩) hlt).trans h.c3, h.tre.below hf⟩
theorem Tre.opened {w : World} {P : Nat → Prop} {v : Value} {t : Tr} (h : Tre w P v t) : ∃ a cap, v = .agg #[.int .i64 t.kind, .int .i64 t.n, .string (ba t.name), .slice a t.kids.length cap] ∧ t.kids.length ≤ cap ∧ InR t.kind ∧ InR t.n ∧ t.name.length ≤ 9223372036854775807 ∧ t.kids.length ≤ 9223372036854775807 ∧
    ∀ i, i < t.kids.length → ∃ b o ka kc, KidAt w P a i (t.kids.getD i zeroT) b o ka kc := by
  obtain ⟨d, h⟩ := h
  cases d with
  | zero => exact h.elim
  | succ d =>
    obtain ⟨a, cap, h1, h2, h3, h4, h5, h6, h7⟩ := h
    refine ⟨a, cap, h1, h2, h3, h4, h5, h6, fun i hi => ?_⟩
    obtain ⟨b, o, u0, u1, u2, u3, k1, k2, k3, k4, k5, k6, k7⟩ := h7 i hi
    have hT : Tre w P (.agg #[u0, u1, u2, u3]) (t.kids.getD i zeroT) := ⟨d, k7⟩
    obtain ⟨ka, kc, e⟩ := hT.four
    rw [e] at hT
    simp only [Value.agg.injEq, Array.mk.injEq, List.cons.injEq, and_true] at e
    obtain ⟨rfl, rfl, rfl, rfl⟩ := e
    exact ⟨b, o, ka, kc, k1, k3, k4, k5, k6, hT⟩
theorem firstBad_at (f : Tr → Nat) : ∀ (l : List Tr) (i : Nat), i < l.length → (∀ j, j < i → f (l.getD j zeroT) = 0) → f (l.getD i zeroT) ≠ 0 → firstBad f l = f (l.getD i zeroT)
  | [], i, h, _, _ => by simp at h
  | k :: r, 0, _, _, h => by show (if f k ≠ 0 then f k else _) = f k; exact if_pos h
  | k :: r, i + 1, hi, h0, h => by
    have e : f k = 0 := h0 0 (by omega)
    show (if f k ≠ 0 then f k else firstBad f r) = f (r.getD i zeroT)
    rw [if_neg (by omega)]
    exact firstBad_at f r i (by simpa using hi) (fun j hj => h0 (j + 1) (by omega)) h
theorem firstBad_none (f : Tr → Nat) : ∀ (l : List Tr), (∀ j, j < l.length → f (l.getD j zeroT) = 0) → firstBad f l = 0
  | [], _ => rfl
  | k :: r, h => by
    have e : f k = 0 := h 0 (by simp)
    show (if f k ≠ 0 then f k else firstBad f r) = 0
    rw [if_neg (by omega)]
    exact firstBad_none f r (fun j hj => h (j + 1) (by simpa using hj))
def Checks (d : Nat) : Prop := ∀ (deep : Nat), d + deep = 17 → ∀ (P : Nat → Prop) (t : Tr) (v : Value) (w : World), Tre w P v t →
  Calls Try.prog 75 #[v, .int .i64 deep] w fun e w' => e = .returned (.int .i64 (checkM d t)) ∧ Below w.heap.size w w'
set_option maxRecDepth 100000 in
theorem check_zero : Checks 0 := by
  intro deep hd P t v w hT
  obtain ⟨a, cap, rfl, _⟩ := hT.opened
  have h16 : ¬ deep ≤ 16 := by omega
  have h17 : (16 : Int) < deep := by omega
  have hd2 : deep ≤ 17 := by omega
  show Calls Try.prog 75 _ w fun e w' => e = .returned (.int .i64 (6 : Nat)) ∧ _
  clear hT
  go_enter Try.func75, Try.ntmps75
  go_wp2
  go_ret
  exact ⟨rfl, (Below.refl _ _).alloc (Nat.le_refl _) _⟩
set_option maxRecDepth 100000 in
set_option maxHeartbeats 800000 in
theorem check_succ (d : Nat) (ih : Checks d) : Checks (d + 1) := by
  intro deep hd P t v w hT
  have HT : Hid (Tre w P v t) := hT
  obtain ⟨a, cap, rfl, hcap, hk, hn, hnm, hlen, hkids⟩ := hT.opened
  have HI : Hid (∀ (x : Tr) (v : Value) (w : World), Tre w P v x → Calls Try.prog 75 #[v, .int .i64 ((deep : Int) + 1)] w fun e w' => e = .returned (.int .i64 (checkM d x)) ∧ Below w.heap.size w w') := fun x v w h => ih (deep + 1) (by omega) P x v w h
  have HK : Hid (∀ i, i < t.kids.length → ∃ b o ka kc, KidAt w P a i (t.kids.getD i zeroT) b o ka kc) := hkids
  have HF : Hid (∀ w, Calls Try.prog 96 #[.agg #[.int .i64 t.kind, .int .i64 t.n, .string (ba t.name), .slice a t.kids.length cap]] w fun e w' => e = .returned (.bool (fitsM t)) ∧ Below w.heap.size w w') := fun w => fits_any t.kind t.n t.name a t.kids.length cap w hnm hlen hk hn
  have hd16 : deep ≤ 16 := by omega
  clear hkids hT ih hk hn hnm
  have HE : Hid (checkM (d + 1) t = if fitsM t = false then 1 else firstBad (checkM d) t.kids) := rfl
  rw [HE.out]
  generalize t.kind = tk at *
  generalize t.n = tn at *
  generalize ba t.name = ts at *
  cases hf : fitsM t with
  | false =>
    rw [hf] at HF
    rw [if_pos rfl]
    go_enter Try.func75, Try.ntmps75
    go_wp2_with (go_at_call 96; refine (HF.out _).mono ?_; rintro e w1 ⟨rfl, HB⟩)
    go_ret
    exact ⟨rfl, ((Below.refl _ _).alloc (Nat.le_refl _) _).trans (HB.mono (by rw [size_alloc]; omega))⟩
  | true =>
    rw [hf] at HF
    rw [if_neg (by decide)]
    clear hf HE
    generalize t.kids = ks at *
    go_enter Try.func75, Try.ntmps75
    go_wp2_with (go_at_call 96; refine (HF.out _).mono ?_; rintro e w1 ⟨rfl, HB⟩; obtain ⟨q0, q1, q2, q3, q4⟩ := (Cell4.new w (.int .i64 tk) (.int .i64 tn) (.string ts) (.slice a ks.length cap) 31).below HB; have HB1 : Hid (Below w.heap.size w w1) := ((Below.refl _ _).alloc (Nat.le_refl _) _).trans (HB.mono (by rw [size_alloc]; omega)); clear HB)
    go_loopw [16] (fun v wr => ∃ (i : Nat), i ≤ ks.length ∧ v = .int .i64 i ∧ Hid (Below w.heap.size w wr ∧ ∀ j, j < i → checkM d (ks.getD j zeroT) = 0)) (fun v _ => ks.length - (intOf v).toNat)
    case atStart => exact ⟨0, Nat.zero_le _, rfl, HB1.out, fun j hj => absurd hj (by omega)⟩
    case round =>
      obtain ⟨i, hi, rfl, HR⟩ := hrel
      by_cases hlt : i < ks.length
      · obtain ⟨b, o, ka, kc, hKA⟩ := HK.out i hlt
        have HKA : Hid (KidAt wr P a i (ks.getD i zeroT) b o ka kc) := hKA.below HR.out.1
        obtain ⟨rfl, k0, k1, k2, k3, _⟩ := HKA.out
        have hbl : b < wr.heap.size := World.block_lt_of_cell? wr _ k0
        have HKT : Hid (Tre wr P (.agg #[.int .i64 (ks.getD i zeroT).kind, .int .i64 (ks.getD i zeroT).n, .string (ba (ks.getD i zeroT).name), .slice ka (ks.getD i zeroT).kids.length kc]) (ks.getD i zeroT)) := HKA.out.tre
        clear hKA HKA
        have HC : Hid (∀ w, Tre w P (.agg #[.int .i64 (ks.getD i zeroT).kind, .int .i64 (ks.getD i zeroT).n, .string (ba (ks.getD i zeroT).name), .slice ka (ks.getD i zeroT).kids.length kc]) (ks.getD i zeroT) → Calls Try.prog 75 #[.agg #[.int .i64 (ks.getD i zeroT).kind, .int .i64 (ks.getD i zeroT).n, .string (ba (ks.getD i zeroT).name), .slice ka (ks.getD i zeroT).kids.length kc], .int .i64 ((deep : Int) + 1)] w fun e w' => e = .returned (.int .i64 (checkM d (ks.getD i zeroT))) ∧ Below w.heap.size w w') := fun w h => HI.out _ _ w h
        have HQ : Hid (∀ k, checkM d (ks.getD i zeroT) = k → k = 0 → ∀ j, j < i + 1 → checkM d (ks.getD j zeroT) = 0) := fun k h1 h2 j hj => by
          rcases Nat.lt_succ_iff_lt_or_eq.1 hj with h | h
          · exact HR.out.2 j h
          · rw [h, h1, h2]
        have HQ2 : Hid (checkM d (ks.getD i zeroT) ≠ 0 → firstBad (checkM d) ks = checkM d (ks.getD i zeroT)) := fun h => firstBad_at _ ks i hlt HR.out.2 h
        generalize hck : checkM d (ks.getD i zeroT) = ck at *
        generalize (ks.getD i zeroT).kind = yk at *
        generalize (ks.getD i zeroT).n = yn at *
        generalize ba (ks.getD i zeroT).name = ys at *
        generalize (ks.getD i zeroT).kids.length = yl at *
        generalize ks.getD i zeroT = y at *
        by_cases hc0 : ck = 0
        · subst hc0
          go_wp2_with (go_at_call 75; refine (HC.out _ (HKT.out.alloc _)).mono ?_; rintro e w3 ⟨rfl, HB⟩; have HB3 : Hid (Below w.heap.size w w3) := (HR.out.1.alloc HR.out.1.size _).trans (HB.mono (by rw [size_alloc]; have := HR.out.1.size; omega)); clear HB)
          go_roundw
          case rel => exact ⟨i + 1, by omega, by go_num, HB3.out, HQ.out 0 rfl rfl⟩
          case measure => simp [intOf]; omega
        · have hc1 : ¬ (ck : Int) = 0 := by omega
          go_wp2_with (go_at_call 75; refine (HC.out _ (HKT.out.alloc _)).mono ?_; rintro e w3 ⟨rfl, HB⟩; have HB3 : Hid (Below w.heap.size w w3) := (HR.out.1.alloc HR.out.1.size _).trans (HB.mono (by rw [size_alloc]; have := HR.out.1.size; omega)); clear HB)
          go_ret
          exact ⟨by rw [HQ2.out hc0]; rfl, HB3.out⟩
      · have he : i = ks.length := by omega
        subst he
        have HE : Hid (firstBad (checkM d) ks = 0) := firstBad_none _ ks HR.out.2
        have HB3 : Hid (Below w.heap.size w wr) := HR.out.1
        clear HR
        go_wp2
        go_ret
        exact ⟨by rw [HE.out]; rfl, HB3.out⟩
theorem checks_any : ∀ d, Checks d
  | 0 => check_zero
  | d + 1 => check_succ d (checks_any d)
set_option maxRecDepth 100000 in
theorem Check_any (P : Nat → Prop) (t : Tr) (k n : Int) (s : ByteArray) (a : Option Addr) (l c : Nat) (w : World) (hT : Tre w P (.agg #[.int .i64 k, .int .i64 n, .string s, .slice a l c]) t) :
    Calls Try.prog 39 #[.agg #[.int .i64 k, .int .i64 n, .string s, .slice a l c]] w fun e w' => e = .returned (.int .i64 (checkM 16 t)) ∧ Below w.heap.size w w' := by
  have HC : Hid (∀ w, Tre w P (.agg #[.int .i64 k, .int .i64 n, .string s, .slice a l c]) t → Calls Try.prog 75 #[.agg #[.int .i64 k, .int .i64 n, .string s, .slice a l c], .int .i64 1] w fun e w' => e = .returned (.int .i64 (checkM 16 t)) ∧ Below w.heap.size w w') := fun w h => checks_any 16 1 rfl P t _ w h
  have HT : Hid (Tre w P (.agg #[.int .i64 k, .int .i64 n, .string s, .slice a l c]) t) := hT
  clear hT
  generalize checkM 16 t = ck at *
  go_enter Try.func39, Try.ntmps39
  go_wp2_with (go_at_call 75; refine (HC.out _ (HT.out.alloc _)).mono ?_; rintro e w3 ⟨rfl, HB⟩)
  go_ret
  exact ⟨rfl, ((Below.refl _ _).alloc (Nat.le_refl _) _).trans (HB.mono (by rw [size_alloc]; omega))⟩
end Go.Proofs.Ytjafjheffbbkmaa
