/-
  The document's From and cut: contracts.
-/
import Derived.Test.YtmpmbgjdbahmbaaFro
import Derived.Test.YtmpmbgjdbahmbaaNew
namespace Go.Proofs.Ytmpmbgjdbahmbaa
open Go.RowKit
set_option linter.unusedVariables false

/-- Where what the row's entries lead to lies. -/
def Sq (w : World) (P : Nat → Prop) (g : Nat) : Prop := (P g ∧ g < w.heap.size) ∨ w.heap.size + 1 ≤ g
/-- A row that grows, beside a box. -/
structure Gq (w0 w : World) (o : Obj) (P : Nat → Prop) (v : Value) (ts : List En) : Prop where
  b : Below (w0.heap.size + 1) (w0.alloc o) w
  g : Gz w (w0.heap.size + 1) (Sq w0 P) v ts
section
variable {w0 w w' : World} {o : Obj} {P : Nat → Prop} {v v' : Value} {ts l : List En}
theorem Gq.nil (w0 : World) (o : Obj) (P : Nat → Prop) : Gq w0 (w0.alloc o) o P (.slice none 0 0) [] := ⟨Below.refl _ _, Gz.nil _ _ _⟩
theorem Gq.size (h : Gq w0 w o P v ts) : w0.heap.size + 1 ≤ w.heap.size := by have := h.b.size; rw [size_alloc] at this; exact this
theorem Gq.g' (h : Gq w0 w o P v ts) {o2 : Obj} : Gz (w.alloc o2) (w0.heap.size + 1) (Sq w0 P) v ts := h.g.below ((Below.refl _ _).alloc (Nat.le_refl _) _)
theorem Gq.hi' (h : Gq w0 w o P v ts) {o2 : Obj} : w0.heap.size + 1 ≤ (w.alloc o2).heap.size := Nat.le_trans h.size (le_alloc _ _)
theorem Gq.add (h : Gq w0 w o P v ts) {o2 : Obj} (h2 : Gz w' (w0.heap.size + 1) (Sq w0 P) v' (ts ++ l)) (hg : (w.alloc o2).grownBy w' v.ownBlock) : Gq w0 w' o P v' (ts ++ l) :=
  ⟨(h.b.alloc h.size o2).grown hg h.hi' fun k hk => (h.g.own k hk).1, h2⟩
theorem Gq.low (h : Gq w0 w o P v ts) : Below w0.heap.size w0 w := ((Below.refl _ _).alloc (Nat.le_refl _) o).trans (h.b.mono (Nat.le_succ _))
theorem Gq.one (h : Gq w0 w o P v ts) {u0 u1 : Value} {e : En} (hr : ReadsE w P u0 u1 e) (hp : ∀ g, P g → g < w0.heap.size) : EnsV (w.alloc (.cells #[u0, u1] 45)) (fun g => P g ∨ g = w.heap.size) (some ⟨w.heap.size, 0, none⟩) 1 [e] ∧ ∀ g, (P g ∨ g = w.heap.size) → g < (w.alloc (.cells #[u0, u1] 45)).heap.size → Sq w0 P g ∧ v.ownBlock ≠ some g := by
  have hs := h.size
  refine ⟨EnsV.one rfl (.inr rfl) (hr.kept fun g hg _ => ⟨rfl, .inl hg⟩), fun g hg _ => ?_⟩
  rcases hg with hg | rfl
  · have := hp g hg
    exact ⟨.inl ⟨hg, this⟩, fun e => by have := (h.g.own g e).1; omega⟩
  · exact ⟨.inr hs, fun e => by have := (h.g.own _ e).2; omega⟩
theorem Gq.out {a : Option Addr} {n c : Nat} (h : Gq w0 w o P (.slice a n c) ts) : EnsV w (fun g => P g ∨ w0.heap.size + 1 ≤ g) a c ts := h.g.reads.2.sub fun g hg _ => by
  rcases hg with (⟨q, _⟩ | q) | q
  · exact .inl q
  · exact .inr q
  · exact .inr q
end
theorem take_step {es : List En} {k i : Nat} (h1 : k ≤ i) (h2 : i < es.length) : (es.drop k).take (i + 1 - k) = (es.drop k).take (i - k) ++ [es.getD i zE] := by
  rw [show i + 1 - k = (i - k) + 1 by omega, take_succ_en (by rw [List.length_drop]; omega), getD_drop, show k + (i - k) = i by omega]
set_option maxRecDepth 100000 in
set_option maxHeartbeats 800000 in
theorem RFrom_any (P : Nat → Prop) (b bt : Int) (a : Option Addr) (c : Nat) (es : List En) (p q : Int) (w : World) (hb : 0 ≤ b) (hb2 : b ≤ 2199023255552) (hp : InR p) (hq : InR q) (hE : EnsV w P a c es) (hs : es.length ≤ 1000) (hP : ∀ g, P g → g < w.heap.size) : Calls Try.prog 24 #[.agg #[.int .i64 b, .int .i64 bt, .slice a es.length c], .int .i64 p, .int .i64 q] w fun e w' => ∃ ra rc, e = .returned (.slice ra (fromM b es p q).length rc) ∧ EnsV w' (fun g => P g ∨ w.heap.size + 1 ≤ g) ra rc (fromM b es p q) ∧ Below w.heap.size w w' := by
  have h1 := hE.cap1
  have h2 := hE.cap2
  obtain ⟨p1, p2⟩ := hp
  obtain ⟨q1, q2⟩ := hq
  have HB0 : Hid (∀ o, Below w.heap.size w (w.alloc o)) := fun o => (Below.refl _ _).alloc (Nat.le_refl _) o
  by_cases c1 : p ≤ b
  · rw [show fromM b es p q = [] from if_pos c1]
    generalize es.length = n at *
    clear hE hP
    go_enter Try.func24, Try.ntmps24
    go_wp2
    go_ret
    exact ⟨none, 0, rfl, EnsV.nil _ _, HB0.out _⟩
  rw [show fromM b es p q = (es.drop (p - b - 1).toNat).take q.toNat from if_neg c1]
  obtain ⟨k, hk⟩ : ∃ k, (p - b - 1).toNat = k := ⟨_, rfl⟩
  rw [hk]
  have hpk : p = b + 1 + (k : Int) := by omega
  have HC : Hid (∀ wr i, Below w.heap.size w wr → i < es.length → ∃ g o ka kn kc, a = some ⟨g, o, none⟩ ∧ wr.cell? ⟨g, o + i * 2, none⟩ = some (.int .i64 (tOf es i)) ∧ wr.cell? ⟨g, o + i * 2 + 1, none⟩ = some (.slice ka kn kc) ∧ g < wr.heap.size ∧ ReadsE wr P (.int .i64 (tOf es i)) (.slice ka kn kc) (es.getD i zE)) := fun wr i h hi => by
    obtain ⟨g, o, ka, kc, q1, q2, q3, q4, q5, q6, q7⟩ := (hE.below h).at_ hi
    exact ⟨g, o, ka, _, kc, q1, q2, q3, q6, q7⟩
  have HTk : Hid (∀ i, k ≤ i → i < es.length → (es.drop k).take (i + 1 - k) = (es.drop k).take (i - k) ++ [es.getD i zE]) := fun i h1 h2 => take_step h1 h2
  have HLe : Hid (∀ i, i ≤ es.length → ((es.drop k).take (i - k)).length = i - k) := fun i hi => by rw [List.length_take, List.length_drop]; omega
  have HEd : Hid (∀ i, i ≤ es.length → i - k ≤ q.toNat → (i = es.length ∨ q ≤ ((i - k : Nat) : Int)) → (es.drop k).take (i - k) = (es.drop k).take q.toNat) := fun i h1 h2 h3 => by
    rcases h3 with h3 | h3
    · rw [List.take_of_length_le (by rw [List.length_drop]; omega), List.take_of_length_le (by rw [List.length_drop]; omega)]
    · rw [show i - k = q.toNat by omega]
  have HPp : Hid (∀ g, P g → g < w.heap.size) := hP
  generalize (es.drop k).take q.toNat = ft at *
  generalize hfl : ft.length = fl at *
  have HFL : Hid (ft.length = fl) := hfl
  clear hE hP hk hfl
  generalize hn : es.length = n at *
  have hpd : ∀ i : Nat, decide (p ≤ b + 1 + (i : Int)) = decide (k ≤ i) := fun i => by rw [decide_eq_decide]; omega
  have HPD : Hid (∀ i : Nat, decide (p ≤ b + 1 + (i : Int)) = decide (k ≤ i)) := hpd
  have HG0 : Hid (Gq w (w.alloc (.cells #[.int .i64 b, .int .i64 bt, .slice a n c] 24)) (.cells #[.int .i64 b, .int .i64 bt, .slice a n c] 24) P (.slice none 0 0) []) := Gq.nil w _ P
  have HPK : Hid (p = b + 1 + (k : Int)) := hpk
  clear hpd hpk
  go_enter Try.func24, Try.ntmps24
  go_wp2
  go_loopw [7, 8] (fun x y wr => ∃ (i : Nat), i ≤ n ∧ y = .int .i64 i ∧ Hid (Gq w wr (.cells #[.int .i64 b, .int .i64 bt, .slice a n c] 24) P x ((es.drop k).take (i - k)) ∧ i - k ≤ q.toNat)) (fun x y _ => n - (intOf y).toNat)
  case atStart => exact ⟨0, Nat.zero_le _, rfl, by rw [Nat.zero_sub, List.take_zero]; exact HG0.out, by rw [Nat.zero_sub]; exact Nat.zero_le _⟩
  case round =>
    obtain ⟨i, hi, rfl, HR⟩ := hrel
    obtain ⟨va, vc, hv⟩ := HR.out.1.g.form
    rw [HLe.out i hi] at hv
    subst hv
    obtain ⟨⟨k0, k1, k2, k3⟩, _⟩ := Bx1.at_ HR.out.1.b
    have hwl : w.heap.size < wr.heap.size := World.block_lt_of_cell? _ _ k0
    have fin : (i = n ∨ q ≤ ((i - k : Nat) : Int)) → ∃ ra rc, Ending.returned (.slice va (i - k) vc) = .returned (.slice ra fl rc) ∧ EnsV wr (fun g => P g ∨ w.heap.size + 1 ≤ g) ra rc ft ∧ Below w.heap.size w wr := fun hf => by
      have e := HEd.out i hi HR.out.2 hf
      have l := HLe.out i hi
      rw [← HFL.out, ← e, l]
      exact ⟨va, vc, rfl, HR.out.1.out, HR.out.1.low⟩
    have HFin : Hid ((i = n ∨ q ≤ ((i - k : Nat) : Int)) → ∃ ra rc, Ending.returned (.slice va (i - k) vc) = .returned (.slice ra fl rc) ∧ EnsV wr (fun g => P g ∨ w.heap.size + 1 ≤ g) ra rc ft ∧ Below w.heap.size w wr) := fin
    clear fin
    by_cases hlt : i < n
    · by_cases hq3 : ((i - k : Nat) : Int) < q
      · have d1 : decide (p ≤ b + 1 + (i : Int)) = decide (k ≤ i) := HPD.out i
        by_cases hki : k ≤ i
        · rw [decide_eq_true hki] at d1
          obtain ⟨g, o, ka, kn, kc, rfl, x1, x2, x3, x4⟩ := HC.out wr i HR.out.1.low (by omega)
          have HE : Hid (EnsV (wr.alloc (.cells #[.int .i64 (tOf es i), .slice ka kn kc] 45)) (fun g => P g ∨ g = wr.heap.size) (some ⟨wr.heap.size, 0, none⟩) 1 [es.getD i zE] ∧ ∀ g, (P g ∨ g = wr.heap.size) → g < (wr.alloc (.cells #[.int .i64 (tOf es i), .slice ka kn kc] 45)).heap.size → Sq w P g ∧ (Value.slice va (i - k) vc).ownBlock ≠ some g) := HR.out.1.one x4 HPp.out
          have HLn : Hid (((es.drop k).take (i - k)).length + [es.getD i zE].length ≤ 1048576) := by
            show _ ≤ _
            rw [HLe.out i hi]; simp only [List.length_cons, List.length_nil]; omega
          have HT5 : Hid ((es.drop k).take (i + 1 - k) = (es.drop k).take (i - k) ++ [es.getD i zE] ∧ i + 1 - k ≤ q.toNat) := ⟨HTk.out i hki (by omega), by omega⟩
          have HG : Hid (Gq w wr (.cells #[.int .i64 b, .int .i64 bt, .slice (some ⟨g, o, none⟩) n c] 24) P (.slice va (i - k) vc) ((es.drop k).take (i - k))) := HR.out.1
          have hpl : p ≤ b + 1 + (i : Int) := by have := HPK.out; omega
          clear HR HC HTk HLe HEd HFin x4 hki HPD
          generalize hen : es.getD i zE = en at *
          generalize tOf es i = t at *
          generalize (es.drop k).take (i - k) = acc at *
          generalize i - k = ik at *
          go_wp2_with (at_builtin; refine list_app (B := w.heap.size + 1) (S := Sq w P) rfl (.tmp 34) (.tmp 40) rfl HG.out.g' HE.out.1 rfl HE.out.2 HG.out.hi' rfl rfl HLn.out ?_; intro v6 w6 q1 q2 q3; have HG6 : Hid (Gq w w6 (.cells #[.int .i64 b, .int .i64 bt, .slice (some ⟨g, o, none⟩) n c] 24) P v6 (acc ++ [en])) := HG.out.add q1 q2; clear q1 q2 q3)
          go_roundw
          case rel => exact ⟨i + 1, by omega, by go_num, by rw [HT5.out.1]; exact HG6.out, HT5.out.2⟩
          case measure => simp [intOf]; omega
        · rw [decide_eq_false hki] at d1
          have HT5 : Hid ((es.drop k).take (i + 1 - k) = (es.drop k).take (i - k) ∧ i + 1 - k ≤ q.toNat) := ⟨by rw [show i + 1 - k = 0 by omega, show i - k = 0 by omega], by omega⟩
          have hpl : ¬ p ≤ b + 1 + (i : Int) := by have := HPK.out; omega
          have HG : Hid (Gq w wr (.cells #[.int .i64 b, .int .i64 bt, .slice a n c] 24) P (.slice va (i - k) vc) ((es.drop k).take (i - k))) := HR.out.1
          clear HR HC HTk HLe HEd HFin hki HPD
          generalize (es.drop k).take (i - k) = acc at *
          generalize i - k = ik at *
          go_wp2
          go_roundw
          case rel => exact ⟨i + 1, by omega, by go_num, by rw [HT5.out.1]; exact HG.out, HT5.out.2⟩
          case measure => simp [intOf]; omega
      · have HF2 := HFin.out (.inr (by omega))
        have HF3 : Hid (∃ ra rc, Ending.returned (.slice va (i - k) vc) = .returned (.slice ra fl rc) ∧ EnsV wr (fun g => P g ∨ w.heap.size + 1 ≤ g) ra rc ft ∧ Below w.heap.size w wr) := HF2
        clear HF2 HFin HR HC HTk HLe HEd HPD
        generalize i - k = ik at *
        go_wp2
        go_ret
        exact HF3.out
    · have HF2 := HFin.out (.inl (by omega))
      have HF3 : Hid (∃ ra rc, Ending.returned (.slice va (i - k) vc) = .returned (.slice ra fl rc) ∧ EnsV wr (fun g => P g ∨ w.heap.size + 1 ≤ g) ra rc ft ∧ Below w.heap.size w wr) := HF2
      clear HF2 HFin HR HC HTk HLe HEd HPD
      generalize i - k = ik at *
      go_wp2
      go_ret
      exact HF3.out
set_option maxRecDepth 100000 in
set_option maxHeartbeats 800000 in
theorem cut_any (P : Nat → Prop) (b bt : Int) (a : Option Addr) (c : Nat) (es : List En) (p : Int) (w : World) (hb : 0 ≤ b) (hb2 : b ≤ 2199023255552) (hp1 : b ≤ p) (hp2 : p ≤ b + es.length) (hE : EnsV w P a c es) (hs : es.length ≤ 1000) (hP : ∀ g, P g → g < w.heap.size) : Calls Try.prog 43 #[.agg #[.int .i64 b, .int .i64 bt, .slice a es.length c], .int .i64 p] w fun e w' => ∃ ra rc, e = .returned (.slice ra (p - b).toNat rc) ∧ EnsV w' (fun g => P g ∨ w.heap.size + 1 ≤ g) ra rc (es.take (p - b).toNat) ∧ Below w.heap.size w w' := by
  have h1 := hE.cap1
  have h2 := hE.cap2
  obtain ⟨k, hk⟩ : ∃ k, (p - b).toNat = k := ⟨_, rfl⟩
  rw [hk]
  have hpk : p = b + (k : Int) := by omega
  have hkn : k ≤ es.length := by omega
  have HC : Hid (∀ wr i, Below w.heap.size w wr → i < es.length → ∃ g o ka kn kc, a = some ⟨g, o, none⟩ ∧ wr.cell? ⟨g, o + i * 2, none⟩ = some (.int .i64 (tOf es i)) ∧ wr.cell? ⟨g, o + i * 2 + 1, none⟩ = some (.slice ka kn kc) ∧ g < wr.heap.size ∧ ReadsE wr P (.int .i64 (tOf es i)) (.slice ka kn kc) (es.getD i zE)) := fun wr i h hi => by
    obtain ⟨g, o, ka, kc, q1, q2, q3, q4, q5, q6, q7⟩ := (hE.below h).at_ hi
    exact ⟨g, o, ka, _, kc, q1, q2, q3, q6, q7⟩
  have HTk : Hid (∀ i, i < es.length → es.take (i + 1) = es.take i ++ [es.getD i zE]) := fun i h2 => take_succ_en h2
  have HLe : Hid (∀ i, i ≤ es.length → (es.take i).length = i) := fun i hi => by rw [List.length_take]; omega
  have HPp : Hid (∀ g, P g → g < w.heap.size) := hP
  have HPD : Hid (∀ i : Nat, decide (b + 1 + (i : Int) ≤ p) = decide (i < k)) := fun i => by rw [decide_eq_decide]; omega
  clear hE hP hk
  generalize es.length = n at *
  have HG0 : Hid (Gq w (w.alloc (.cells #[.int .i64 b, .int .i64 bt, .slice a n c] 24)) (.cells #[.int .i64 b, .int .i64 bt, .slice a n c] 24) P (.slice none 0 0) []) := Gq.nil w _ P
  go_enter Try.func43, Try.ntmps43
  go_wp2
  go_loopw [5, 6] (fun x y wr => ∃ (i : Nat), i ≤ k ∧ y = .int .i64 i ∧ Hid (Gq w wr (.cells #[.int .i64 b, .int .i64 bt, .slice a n c] 24) P x (es.take i))) (fun x y _ => k - (intOf y).toNat)
  case atStart => exact ⟨0, Nat.zero_le _, rfl, by rw [List.take_zero]; exact HG0.out⟩
  case round =>
    obtain ⟨i, hi, rfl, HR⟩ := hrel
    obtain ⟨va, vc, hv⟩ := HR.out.g.form
    rw [HLe.out i (by omega)] at hv
    subst hv
    obtain ⟨⟨k0, k1, k2, k3⟩, _⟩ := Bx1.at_ HR.out.b
    have hwl : w.heap.size < wr.heap.size := World.block_lt_of_cell? _ _ k0
    have d1 : decide (b + 1 + (i : Int) ≤ p) = decide (i < k) := HPD.out i
    by_cases hlt : i < k
    · rw [decide_eq_true hlt] at d1
      have hin : i < n := by omega
      obtain ⟨g, o, ka, kn, kc, rfl, x1, x2, x3, x4⟩ := HC.out wr i HR.out.low (by omega)
      have HE : Hid (EnsV (wr.alloc (.cells #[.int .i64 (tOf es i), .slice ka kn kc] 45)) (fun g => P g ∨ g = wr.heap.size) (some ⟨wr.heap.size, 0, none⟩) 1 [es.getD i zE] ∧ ∀ g, (P g ∨ g = wr.heap.size) → g < (wr.alloc (.cells #[.int .i64 (tOf es i), .slice ka kn kc] 45)).heap.size → Sq w P g ∧ (Value.slice va i vc).ownBlock ≠ some g) := HR.out.one x4 HPp.out
      have HLn : Hid ((es.take i).length + [es.getD i zE].length ≤ 1048576) := by
        show _ ≤ _
        rw [HLe.out i (by omega)]; simp only [List.length_cons, List.length_nil]; omega
      have HT5 : Hid (es.take (i + 1) = es.take i ++ [es.getD i zE]) := HTk.out i (by omega)
      have HG : Hid (Gq w wr (.cells #[.int .i64 b, .int .i64 bt, .slice (some ⟨g, o, none⟩) n c] 24) P (.slice va i vc) (es.take i)) := HR.out
      have hpl : b + 1 + (i : Int) ≤ p := by omega
      clear HR HC HTk HLe x4 HPD hpk
      generalize hen : es.getD i zE = en at *
      generalize tOf es i = t at *
      generalize es.take i = acc at *
      go_wp2_with (at_builtin; refine list_app (B := w.heap.size + 1) (S := Sq w P) rfl (.tmp 23) (.tmp 29) rfl HG.out.g' HE.out.1 rfl HE.out.2 HG.out.hi' rfl rfl HLn.out ?_; intro v6 w6 q1 q2 q3; have HG6 : Hid (Gq w w6 (.cells #[.int .i64 b, .int .i64 bt, .slice (some ⟨g, o, none⟩) n c] 24) P v6 (acc ++ [en])) := HG.out.add q1 q2; clear q1 q2 q3)
      go_roundw
      case rel => exact ⟨i + 1, by omega, by go_num, by rw [HT5.out]; exact HG6.out⟩
      case measure => simp [intOf]; omega
    · rw [decide_eq_false hlt] at d1
      have hik : i = k := by omega
      have hpl : ¬ b + 1 + (i : Int) ≤ p := by omega
      have HF3 : Hid (EnsV wr (fun g => P g ∨ w.heap.size + 1 ≤ g) va vc (es.take k) ∧ Below w.heap.size w wr) := ⟨hik ▸ HR.out.out, HR.out.low⟩
      subst hik
      clear HR HC HTk HLe HPD hpk
      by_cases hin : i < n
      · go_wp2
        go_ret
        exact ⟨va, vc, rfl, HF3.out.1, HF3.out.2⟩
      · go_wp2
        go_ret
        exact ⟨va, vc, rfl, HF3.out.1, HF3.out.2⟩
end Go.Proofs.Ytmpmbgjdbahmbaa
