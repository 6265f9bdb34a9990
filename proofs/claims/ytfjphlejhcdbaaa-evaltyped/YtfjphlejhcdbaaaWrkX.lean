/-
  The document's Scan, of words.
-/
import Derived.Test.YtfjphlejhcdbaaaScanW
import Derived.Test.YtfjphlejhcdbaaaTreA
import Derived.Test.YtfjphlejhcdbaaaRefB
import Derived.Test.YtfjphlejhcdbaaaNamA
import Derived.Test.YtfjphlejhcdbaaaFolX
import Derived.Test.YtfjphlejhcdbaaaRenA
import Derived.Test.YtfjphlejhcdbaaaWeigh
namespace Go.Proofs.Ytfjphlejhcdbaaa
section
section
open Go.RowKit
set_option linter.unusedVariables false


theorem scan_any (ws : List W) (hsg : ∀ x ∈ ws, x.kind = 3 → ∃ c, x.text = [c]) (en : Nat) (hen : en ≤ 4096) : ScanS ws en (scanE en ws).1 (scanE en ws).2 := by
  intro w a cap h
  obtain ⟨a2, cap2, e, h1, h2, h3⟩ := h
  injection e with e1 e2 e3
  subst e1; subst e3
  refine scan_walk ws h2 hsg en hen a cap h1 w ?_ _ rfl
  intro hne
  rcases h3 with h | ⟨b, rfl, hc⟩
  · exact absurd h hne
  · exact ⟨b, rfl, fun i hi => by rw [Nat.zero_add]; exact hc i hi⟩
end
section
open Go.RowKit
set_option linter.unusedVariables false
end
end
section
section
open Go.RowKit
set_option linter.unusedVariables false


def askM (nm : Bs) : Nat → Tr → Bool
  | 0, _ => false
  | d + 1, t => decide (t.kind = 2 ∧ t.name = nm) || t.kids.any (askM nm d)
def Asked (nm : Bs) (t : Tr) : Prop := ∃ d, askM nm d t = true
theorem asked_iff {nm : Bs} {t : Tr} : Asked nm t ↔ (t.kind = 2 ∧ t.name = nm) ∨ ∃ x ∈ t.kids, Asked nm x := by
  constructor
  · rintro ⟨d, h⟩
    cases d with
    | zero => cases h
    | succ d =>
      unfold askM at h
      simp only [Bool.or_eq_true, decide_eq_true_eq, List.any_eq_true] at h
      rcases h with h | ⟨x, hx, h⟩
      · exact .inl h
      · exact .inr ⟨x, hx, d, h⟩
  · rintro (h | ⟨x, hx, d, h⟩)
    · refine ⟨1, ?_⟩
      unfold askM
      simp only [Bool.or_eq_true, decide_eq_true_eq]
      exact .inl h
    · refine ⟨d + 1, ?_⟩
      unfold askM
      simp only [Bool.or_eq_true, List.any_eq_true]
      exact .inr ⟨x, hx, h⟩
def AskP (nm : Bs) (t : Tr) (w : World) (e : Ending) (w' : World) : Prop := ∃ b, e = .returned (.bool b) ∧ (b = true ↔ Asked nm t) ∧ Below w.heap.size w w'
def Asking (nm : Bs) (t : Tr) : Prop := ∀ (P : Nat → Prop) (v : Value) (w : World), Tre w P v t → Calls Try.prog 36 #[v, .string (ba nm)] w (AskP nm t w)
set_option maxRecDepth 100000 in
set_option maxHeartbeats 1000000 in
theorem ask_step (nm : Bs) (t : Tr) (ih : ∀ k ∈ t.kids, Asking nm k) : Asking nm t := by
  intro P v w hT
  obtain ⟨a, cap, rfl, hcap, hk, hn, hnm, hlen, hkids⟩ := hT.opened
  have hb : ((ba t.name).toList == (ba nm).toList) = decide (t.name = nm) := by
    rw [ba_toList, ba_toList]
    by_cases h : t.name = nm
    · rw [decide_eq_true h]; simpa using h
    · rw [decide_eq_false h]; simpa using h
  by_cases hq : t.kind = 2 ∧ t.name = nm
  · have HA : Hid (Asked nm t) := asked_iff.2 (.inl hq)
    rw [decide_eq_true hq.2] at hb
    rw [hq.1]
    generalize ba t.name = ts at *
    generalize ba nm = sn at *
    clear hkids hT ih
    go_enter Try.func36, Try.ntmps36
    go_wp2
    go_ret
    exact ⟨true, rfl, ⟨fun _ => HA.out, fun _ => rfl⟩, (Below.refl _ _).alloc (Nat.le_refl _) _⟩
  · have HN : Hid ((∀ j, j < t.kids.length → ¬ Asked nm (t.kids.getD j zeroT)) → ¬ Asked nm t) := fun h ha => by
      rcases asked_iff.1 ha with h1 | ⟨x, hx, h1⟩
      · exact hq h1
      · obtain ⟨j, hj, e⟩ := List.getElem_of_mem hx
        refine h j hj ?_
        rw [List.getD_eq_getElem?_getD, List.getElem?_eq_getElem hj, Option.getD_some, e]
        exact h1
    have HY : Hid (∀ j, j < t.kids.length → Asked nm (t.kids.getD j zeroT) → Asked nm t) := fun j hj h => asked_iff.2 (.inr ⟨_, by rw [List.getD_eq_getElem?_getD, List.getElem?_eq_getElem hj]; exact List.getElem_mem hj, h⟩)
    have HI : Hid (∀ k ∈ t.kids, Asking nm k) := ih
    have HK : Hid (∀ i, i < t.kids.length → ∃ b o ka kc, KidAt w P a i (t.kids.getD i zeroT) b o ka kc) := hkids
    have hfirst : (t.kind == 2) = true ∧ ((ba t.name).toList == (ba nm).toList) = false ∨ (t.kind == 2) = false := by
      by_cases h2 : t.kind = 2
      · left
        refine ⟨by simpa using h2, ?_⟩
        rw [hb, decide_eq_false fun h => hq ⟨h2, h⟩]
      · right; simpa using h2
    clear hkids hT ih hk hn hnm hb hq
    unfold AskP
    generalize Asked nm t = AT at *
    generalize t.n = tn at *
    generalize ba t.name = ts at *
    generalize t.kind = tk at *
    generalize t.kids = ks at *
    rcases hfirst with ⟨hf1, hf2⟩ | hf1
    all_goals (
      unfold Asking at HI
      generalize hsn : ba nm = sn at *
      go_enter Try.func36, Try.ntmps36
      go_wp2_with fail
      have HB0 : Hid (Below w.heap.size w (w.alloc (.cells #[.int .i64 tk, .int .i64 tn, .string ts, .slice a ks.length cap] 24)) ∧ Cell4 (w.alloc (.cells #[.int .i64 tk, .int .i64 tn, .string ts, .slice a ks.length cap] 24)) w.heap.size (.int .i64 tk) (.int .i64 tn) (.string ts) (.slice a ks.length cap)) := ⟨(Below.refl _ _).alloc (Nat.le_refl _) _, Cell4.new _ _ _ _ _ 24⟩
      generalize w.alloc (.cells #[.int .i64 tk, .int .i64 tn, .string ts, .slice a ks.length cap] 24) = w1 at *
      go_loopw [5] (fun v wr => ∃ (i : Nat), i ≤ ks.length ∧ v = .int .i64 i ∧ Hid (Below w.heap.size w wr ∧ Cell4 wr w.heap.size (.int .i64 tk) (.int .i64 tn) (.string ts) (.slice a ks.length cap) ∧ ∀ j, j < i → ¬ Asked nm (ks.getD j zeroT))) (fun v _ => ks.length - (intOf v).toNat)
      case atStart => exact ⟨0, Nat.zero_le _, rfl, HB0.out.1, HB0.out.2, fun j hj => absurd hj (by omega)⟩
      case round =>
        obtain ⟨i, hi, rfl, HR⟩ := hrel
        obtain ⟨q0, q1, q2, q3, q4⟩ := HR.out.2.1
        have hwl : w.heap.size < wr.heap.size := World.block_lt_of_cell? _ _ q0
        by_cases hlt : i < ks.length
        · obtain ⟨b, o, ka, kc, hKA⟩ := HK.out i hlt
          have HKA : Hid (KidAt wr P a i (ks.getD i zeroT) b o ka kc) := hKA.below HR.out.1
          obtain ⟨rfl, m0, m1, m2, m3, hkt⟩ := HKA.out
          have hbl : b < wr.heap.size := World.block_lt_of_cell? wr _ m0
          have HKT : Hid (Tre wr P (.agg #[.int .i64 (ks.getD i zeroT).kind, .int .i64 (ks.getD i zeroT).n, .string (ba (ks.getD i zeroT).name), .slice ka (ks.getD i zeroT).kids.length kc]) (ks.getD i zeroT)) := hkt
          have HC : Hid (∀ w, Tre w P (.agg #[.int .i64 (ks.getD i zeroT).kind, .int .i64 (ks.getD i zeroT).n, .string (ba (ks.getD i zeroT).name), .slice ka (ks.getD i zeroT).kids.length kc]) (ks.getD i zeroT) → Calls Try.prog 36 #[.agg #[.int .i64 (ks.getD i zeroT).kind, .int .i64 (ks.getD i zeroT).n, .string (ba (ks.getD i zeroT).name), .slice ka (ks.getD i zeroT).kids.length kc], .string sn] w (AskP nm (ks.getD i zeroT) w)) := fun w h => HI.out _ (by rw [List.getD_eq_getElem?_getD, List.getElem?_eq_getElem hlt]; exact List.getElem_mem hlt) P _ w h
          have HQ : Hid (¬ Asked nm (ks.getD i zeroT) → ∀ j, j < i + 1 → ¬ Asked nm (ks.getD j zeroT)) := fun h j hj => by
            rcases Nat.lt_succ_iff_lt_or_eq.1 hj with h2 | h2
            · exact HR.out.2.2 j h2
            · rw [h2]; exact h
          have HQ2 : Hid (Asked nm (ks.getD i zeroT) → AT) := HY.out i hlt
          have HW : Hid (Below w.heap.size w wr ∧ Cell4 wr w.heap.size (.int .i64 tk) (.int .i64 tn) (.string ts) (.slice (some ⟨b, o, none⟩) ks.length cap)) := ⟨HR.out.1, HR.out.2.1⟩
          clear hkt hKA HKA HK HI
          unfold AskP at HC
          generalize Asked nm (ks.getD i zeroT) = AK at *
          generalize (ks.getD i zeroT).kind = yk at *
          generalize (ks.getD i zeroT).n = yn at *
          generalize ba (ks.getD i zeroT).name = ys at *
          generalize (ks.getD i zeroT).kids.length = yl at *
          generalize ks.getD i zeroT = y at *
          go_wp2_with (go_at_call 36; refine (HC.out _ HKT.out).mono ?_; rintro e w3 ⟨kb, rfl, hkb, HB⟩; have HKb : Hid (kb = true ↔ AK) := hkb; have HB3 : Hid (Below w.heap.size w w3 ∧ Cell4 w3 w.heap.size (.int .i64 tk) (.int .i64 tn) (.string ts) (.slice (some ⟨b, o, none⟩) ks.length cap)) := ⟨HW.out.1.trans (HB.mono HW.out.1.size), HW.out.2.below HB⟩; clear HB hkb; cases kb)
          · go_roundw
            case rel => exact ⟨i + 1, by omega, by go_num, HB3.out.1, HB3.out.2, HQ.out fun h => absurd (HKb.out.2 h) (by decide)⟩
            case measure => simp [intOf]; omega
          · go_ret
            exact ⟨true, rfl, ⟨fun _ => HQ2.out (HKb.out.1 (by simp)), fun _ => rfl⟩, HB3.out.1⟩
        · have he : i = ks.length := by omega
          subst he
          have HF : Hid (¬ AT ∧ Below w.heap.size w wr) := ⟨HN.out HR.out.2.2, HR.out.1⟩
          clear HR
          go_wp2
          go_ret
          exact ⟨false, rfl, ⟨fun h => absurd h (by decide), fun h => absurd h HF.out.1⟩, HF.out.2⟩)
theorem ask_any (nm : Bs) (t : Tr) : Asking nm t := Tr.ind (ask_step nm) t
set_option maxRecDepth 100000 in
set_option maxHeartbeats 400000 in
theorem Asks_any (nm : Bs) (P : Nat → Prop) (t : Tr) (k n : Int) (s : ByteArray) (a : Option Addr) (l c : Nat) (w : World) (hT : Tre w P (.agg #[.int .i64 k, .int .i64 n, .string s, .slice a l c]) t) : Calls Try.prog 18 #[.agg #[.int .i64 k, .int .i64 n, .string s, .slice a l c], .string (ba nm)] w (AskP nm t w) := by
  have HT : Hid (Tre w P (.agg #[.int .i64 k, .int .i64 n, .string s, .slice a l c]) t) := hT
  have HC : Hid (∀ w, Tre w P (.agg #[.int .i64 k, .int .i64 n, .string s, .slice a l c]) t → Calls Try.prog 36 #[.agg #[.int .i64 k, .int .i64 n, .string s, .slice a l c], .string (ba nm)] w (AskP nm t w)) := fun w h => ask_any nm t P _ w h
  clear hT
  generalize ba nm = sn at *
  go_enter Try.func18, Try.ntmps18
  go_wp2_with (go_at_call 36; refine (HC.out _ (HT.out.alloc _)).mono ?_; rintro e w3 ⟨kb, rfl, hkb, HB⟩)
  go_ret
  exact ⟨kb, rfl, hkb, ((Below.refl _ _).alloc (Nat.le_refl _) _).trans (HB.mono (le_alloc _ _))⟩
end
section
open Go.RowKit
set_option linter.unusedVariables false
end
end
end Go.Proofs.Ytfjphlejhcdbaaa
