/-
  The variables of a tree, in the order in which they stand: contracts.
-/
import Derived.Test.YtdnpbnhfakjhoaaRenA
import Derived.Test.YtdnpbnhfakjhoaaStk
import Derived.Sort.OwnSorted
import Derived.Maps.AppendAt
import Derived.Lib.RowBridge
namespace Go.Proofs.Ytdnpbnhfakjhoaa
section
open Go.RowKit Go.Maps Go.Sort
set_option linter.unusedVariables false

def varsM : Nat → Tr → List Bs
  | 0, _ => []
  | d + 1, t => if t.kind = 2 then [t.name] else t.kids.flatMap (varsM d)
def strs (l : List Bs) : List Value := l.map encStr
theorem encStr_ba (l : Bs) : encStr l = .string (ba l) := rfl
theorem strs_len (l : List Bs) : (strs l).length = l.length := List.length_map ..
theorem strs_append (l m : List Bs) : strs (l ++ m) = strs l ++ strs m := List.map_append ..
theorem infoS : (Try.prog.info? 9).map (fun i => (i.zero, i.size, i.bytes)) = some (some (.string ⟨#[]⟩), 1, 16) := by kernel_rfl
theorem flat_len {f : Tr → List Bs} {m : Nat} : ∀ {l : List Tr}, (∀ x ∈ l, (f x).length ≤ m) → (l.flatMap f).length ≤ l.length * m
  | [], _ => by simp
  | x :: r, h => by
    rw [List.flatMap_cons, List.length_append, List.length_cons, Nat.succ_mul]
    have h1 := h x (List.mem_cons_self ..)
    have h2 := flat_len (l := r) (fun y hy => h y (List.mem_cons_of_mem _ hy))
    omega
theorem kids_two {d : Nat} {t : Tr} (h : checkM (d + 1) t = 0) : t.kids.length ≤ 2 := by
  rcases (shape h).kids with ⟨_, h⟩ | ⟨_, x, h, _⟩ | ⟨_, x, y, h, _⟩ <;> rw [h] <;> simp
theorem vars_len : ∀ (d : Nat) (t : Tr), checkM d t = 0 → (varsM d t).length ≤ 2 ^ d
  | 0, t, h => by cases h
  | d + 1, t, h => by
    unfold varsM
    split
    · exact Nat.one_le_two_pow
    · have h1 := flat_len (f := varsM d) (l := t.kids) (m := 2 ^ d) (fun x hx => vars_len d x ((check_fits h).2 x hx))
      have h2 := kids_two h
      have h3 := Nat.mul_le_mul_right (2 ^ d) h2
      rw [Nat.pow_succ]; omega
/-- A row of texts of the call's own. -/
def Txt (w : World) (base : Nat) (v : Value) (l : List Bs) : Prop := w.ownsRow base 9 1 v l.length (strs l)
theorem Txt.below {w w' : World} {base : Nat} {v : Value} {l : List Bs} (h : Txt w base v l) (hb : Below w.heap.size w w') : Txt w' base v l := own_below h hb
theorem Txt.nil (w : World) (base : Nat) : Txt w base (.slice none 0 0) [] := World.ownsRow_nil _ _ _ _
theorem wpList_txt {ops : Array Oper} {rest : List Oper} {o : Oper} {a : Act} {Q : Exit → Act → World → Prop} {wX : World} (hgd : o.guard = none) (s x : Operand)
    (ho : o.op = .call { callee := .builtin .append, args := #[s, x], argTypes := #[34, 34] }) {base B : Nat} {v : Value} {l : List Bs} (y : ByteArray) (hl : Txt wX base v l) (hbase : base ≤ wX.heap.size) (hs : a.eval s = v) (hx : a.eval x = .slice (some ⟨B, 0, none⟩) 1 1) (hB : B = wX.heap.size) (hlen : l.length ≤ 1048576)
    (h : ∀ v' w' m, y = ba m → Txt w' base v' (l ++ [m]) → (wX.alloc (.cells #[.string y] 9)).grownBy w' v.ownBlock → wpList Try.prog ops Q rest (a.put o.dst v') w') : wpList Try.prog ops Q (o :: rest) a (wX.alloc (.cells #[.string y] 9)) := by
  subst hB
  obtain ⟨i, hi, hz, hsz, hby⟩ := info_parts infoS
  refine wpList_append_own_at _ hgd s x 34 ho base 9 i _ 1 16 Try.underlying34 hi hz hsz hby rfl (by decide) v l.length (strs l) hs (World.ownsRow.alloc hl _) ⟨wX.heap.size, 0, none⟩ 1 1 [.string y] hx rfl (cell_one_new _ _ _) (by intro u hu; simp at hu; rw [hu]; rfl) (by unfold maxLen; omega) (by omega) (by rw [size_alloc]; omega) ?_
  intro v' w' hown hgr _ _
  refine h v' w' y.data.toList (ba_of y).symm ?_ hgr
  unfold Txt
  rw [strs_append, List.length_append]
  have e : strs [y.data.toList] = [.string y] := by show [encStr y.data.toList] = _; rw [encStr_ba, ba_of]
  rw [e]
  exact hown
theorem Tre.openedP {w : World} {P : Nat → Prop} {v : Value} {t : Tr} (h : Tre w P v t) : ∃ a cap, v = .agg #[.int .i64 t.kind, .int .i64 t.n, .string (ba t.name), .slice a t.kids.length cap] ∧ t.kids.length ≤ cap ∧ InR t.kind ∧ InR t.n ∧ t.name.length ≤ 9223372036854775807 ∧ t.kids.length ≤ 9223372036854775807 ∧
    ∀ i, i < t.kids.length → ∃ b o ka kc, P b ∧ KidAt w P a i (t.kids.getD i zeroT) b o ka kc := by
  obtain ⟨d, h⟩ := h
  cases d with
  | zero => exact h.elim
  | succ d =>
    obtain ⟨a, cap, h1, h2, h3, h4, h5, h6, h7⟩ := h
    refine ⟨a, cap, h1, h2, h3, h4, h5, h6, fun i hi => ?_⟩
    obtain ⟨b, o, u0, u1, u2, u3, k1, k2, k3, k4, k5, k6, k7⟩ := h7 i hi
    have hT : Tre w P (.agg #[u0, u1, u2, u3]) (t.kids.getD i zeroT) := ⟨d, k7⟩
    obtain ⟨ka, kc, e⟩ := hT.four
    rw [e] at hT
    simp only [Value.agg.injEq, Array.mk.injEq, List.cons.injEq, and_true] at e
    obtain ⟨rfl, rfl, rfl, rfl⟩ := e
    exact ⟨b, o, ka, kc, k2, k1, k3, k4, k5, k6, hT⟩
theorem KidAt.low {w w' : World} {base : Nat} {a : Option Addr} {i : Nat} {x : Tr} {b o : Nat} {ka : Option Addr} {kc : Nat} (h : KidAt w (fun g => g < base) a i x b o ka kc) (hb : b < base) (hf : Below base w w') : KidAt w' (fun g => g < base) a i x b o ka kc :=
  ⟨h.ad, (hf.cell (p := ⟨b, _, none⟩) hb).trans h.c0, (hf.cell (p := ⟨b, _, none⟩) hb).trans h.c1, (hf.cell (p := ⟨b, _, none⟩) hb).trans h.c2, (hf.cell (p := ⟨b, _, none⟩) hb).trans h.c3, h.tre.kept fun g hg _ => ⟨hf.block g hg, hg⟩⟩
theorem take_next {ks : List Tr} {i : Nat} (h : i < ks.length) (f : Tr → List Bs) : (ks.take (i + 1)).flatMap f = (ks.take i).flatMap f ++ f (ks.getD i zeroT) := by
  rw [List.take_succ_eq_append_getElem h, List.flatMap_append, List.getD_eq_getElem?_getD, List.getElem?_eq_getElem h]
  simp
def Vars (d : Nat) : Prop := ∀ (base : Nat) (t : Tr) (v nv : Value) (acc : List Bs) (w : World), checkM d t = 0 → Tre w (fun g => g < base) v t → base ≤ w.heap.size → Txt w base nv acc → acc.length + 2 ^ d ≤ 1048576 →
  Calls Try.prog 29 #[nv, v] w fun e w' => ∃ nv', e = .returned nv' ∧ Txt w' base nv' (acc ++ varsM d t) ∧ Below base w w'
theorem vars_zero : Vars 0 := fun base t v nv acc w h => by cases h
set_option maxRecDepth 100000 in
set_option maxHeartbeats 1000000 in
theorem vars_succ (d : Nat) (ih : Vars d) : Vars (d + 1) := by
  intro base t v nv acc w hck hT hbase hO hlen
  obtain ⟨a, cap, rfl, hcap, hk, hn, hnm, hl63, hkids⟩ := hT.openedP
  have HO : Hid (Txt w base nv acc) := hO
  by_cases h2 : t.kind = 2
  · have he : varsM (d + 1) t = [t.name] := by unfold varsM; rw [if_pos h2]
    rw [he, h2]
    have HN : Hid (∀ m, ba t.name = ba m → m = t.name) := fun m h => by simpa [ba] using h.symm
    have hl2 : acc.length ≤ 1048576 := by have := Nat.one_le_two_pow (n := d + 1); omega
    generalize ba t.name = ts at *
    generalize t.name = nm at *
    clear hkids hT hO
    go_enter Try.func29, Try.ntmps29
    go_wp2_with (at_builtin; refine wpList_txt rfl (.tmp 10) (.tmp 13) rfl ts (HO.out.below ((Below.refl _ _).alloc (Nat.le_refl _) _)) (Nat.le_trans hbase (le_alloc _ _)) rfl rfl (by rw [size_alloc]) hl2 ?_; intro v1 w1 m hm h1 hg; have HF : Hid (Txt w1 base v1 (acc ++ [nm]) ∧ Below base w w1) := ⟨by rw [← HN.out m hm]; exact h1, ((((Below.refl _ _).alloc hbase _).alloc (Nat.le_trans hbase (le_alloc _ _)) _).grown hg (Nat.le_trans hbase (Nat.le_trans (le_alloc _ _) (le_alloc _ _))) (fun q hq => (World.ownsRow.lt HO.out q hq).1))⟩; clear h1 hg hm)
    go_ret
    exact ⟨_, rfl, HF.out.1, HF.out.2⟩
  · have he : varsM (d + 1) t = t.kids.flatMap (varsM d) := by unfold varsM; rw [if_neg h2]
    rw [he]
    have HI : Hid (∀ (y : Tr) (v nv : Value) (acc : List Bs) (w : World), checkM d y = 0 → Tre w (fun g => g < base) v y → base ≤ w.heap.size → Txt w base nv acc → acc.length + 2 ^ d ≤ 1048576 → Calls Try.prog 29 #[nv, v] w fun e w' => ∃ nv', e = .returned nv' ∧ Txt w' base nv' (acc ++ varsM d y) ∧ Below base w w') := fun y v nv acc w h1 h2 h3 h4 h5 => ih base y v nv acc w h1 h2 h3 h4 h5
    have HK : Hid (∀ i, i < t.kids.length → ∃ b o ka kc, b < base ∧ KidAt w (fun g => g < base) a i (t.kids.getD i zeroT) b o ka kc) := hkids
    have HD : Hid (∀ y ∈ t.kids, checkM d y = 0) := (check_fits hck).2
    have HLn : Hid (acc.length + 2 ^ (d + 1) ≤ 1048576) := hlen
    have HK2 : Hid (t.kids.length ≤ 2) := kids_two hck
    clear hkids hT hO ih hn hnm hck he hk hlen
    generalize t.n = tn at *
    generalize ba t.name = tsn at *
    generalize t.kind = tk at *
    generalize t.kids = ks at *
    have hb2 : (tk == 2) = false := by simpa using h2
    clear h2
    go_enter Try.func29, Try.ntmps29
    go_wp2_with fail
    have HB0 : Hid (Below base w (w.alloc (.cells #[.int .i64 tk, .int .i64 tn, .string tsn, .slice a ks.length cap] 24)) ∧ base ≤ (w.alloc (.cells #[.int .i64 tk, .int .i64 tn, .string tsn, .slice a ks.length cap] 24)).heap.size ∧ Txt (w.alloc (.cells #[.int .i64 tk, .int .i64 tn, .string tsn, .slice a ks.length cap] 24)) base nv acc) := ⟨(Below.refl _ _).alloc hbase _, Nat.le_trans hbase (le_alloc _ _), HO.out.below ((Below.refl _ _).alloc (Nat.le_refl _) _)⟩
    generalize w.alloc (.cells #[.int .i64 tk, .int .i64 tn, .string tsn, .slice a ks.length cap] 24) = w1 at *
    go_loopw [0, 18] (fun nv v wr => ∃ (i : Nat), i ≤ ks.length ∧ v = .int .i64 i ∧ Hid (Below base w wr ∧ base ≤ wr.heap.size ∧ Txt wr base nv (acc ++ (ks.take i).flatMap (varsM d)))) (fun _ v _ => ks.length - (intOf v).toNat)
    case atStart => exact ⟨0, Nat.zero_le _, rfl, HB0.out.1, HB0.out.2.1, by rw [List.take_zero, List.flatMap_nil, List.append_nil]; exact HB0.out.2.2⟩
    case round =>
      obtain ⟨i, hi, rfl, HR⟩ := hrel
      by_cases hlt : i < ks.length
      · obtain ⟨b, o, ka, kc, hbb, hKA⟩ := HK.out i hlt
        have HKA : Hid (KidAt wr (fun g => g < base) a i (ks.getD i zeroT) b o ka kc) := hKA.low hbb HR.out.1
        obtain ⟨rfl, m0, m1, m2, m3, hkt⟩ := HKA.out
        have hbl : b < wr.heap.size := World.block_lt_of_cell? wr _ m0
        have HY0 : Hid (checkM d (ks.getD i zeroT) = 0) := HD.out _ (by rw [List.getD_eq_getElem?_getD, List.getElem?_eq_getElem hlt]; exact List.getElem_mem hlt)
        have HKT : Hid (Tre wr (fun g => g < base) (.agg #[.int .i64 (ks.getD i zeroT).kind, .int .i64 (ks.getD i zeroT).n, .string (ba (ks.getD i zeroT).name), .slice ka (ks.getD i zeroT).kids.length kc]) (ks.getD i zeroT)) := hkt
        have HLe : Hid ((acc ++ (ks.take i).flatMap (varsM d)).length + 2 ^ d ≤ 1048576) := by
          have h1 := flat_len (f := varsM d) (l := ks.take i) (m := 2 ^ d) (fun x hx => vars_len d x (HD.out x (List.mem_of_mem_take hx)))
          have h2 := HLn.out
          have h3 := HK2.out
          have h4 : (ks.take i).length ≤ 1 := by rw [List.length_take]; omega
          have h5 := Nat.mul_le_mul_right (2 ^ d) h4
          rw [Nat.pow_succ] at h2
          unfold Hid
          rw [List.length_append]; omega
        have HN : Hid (acc ++ (ks.take (i + 1)).flatMap (varsM d) = acc ++ (ks.take i).flatMap (varsM d) ++ varsM d (ks.getD i zeroT)) := by
          unfold Hid; rw [take_next hlt, List.append_assoc]
        have HC := HI.out (ks.getD i zeroT) (.agg #[.int .i64 (ks.getD i zeroT).kind, .int .i64 (ks.getD i zeroT).n, .string (ba (ks.getD i zeroT).name), .slice ka (ks.getD i zeroT).kids.length kc])
        have HC : Hid (∀ w, Tre w (fun g => g < base) (.agg #[.int .i64 (ks.getD i zeroT).kind, .int .i64 (ks.getD i zeroT).n, .string (ba (ks.getD i zeroT).name), .slice ka (ks.getD i zeroT).kids.length kc]) (ks.getD i zeroT) → base ≤ w.heap.size → ∀ nv, Txt w base nv (acc ++ (ks.take i).flatMap (varsM d)) → Calls Try.prog 29 #[nv, .agg #[.int .i64 (ks.getD i zeroT).kind, .int .i64 (ks.getD i zeroT).n, .string (ba (ks.getD i zeroT).name), .slice ka (ks.getD i zeroT).kids.length kc]] w fun e w' => ∃ nv', e = .returned nv' ∧ Txt w' base nv' (acc ++ (ks.take i).flatMap (varsM d) ++ varsM d (ks.getD i zeroT)) ∧ Below base w w') := fun w h1 h2 nv h3 => HC nv _ w HY0.out h1 h2 h3 HLe.out
        clear hkt hKA HKA HK HD HI HY0 HLe
        generalize acc ++ (ks.take i).flatMap (varsM d) ++ varsM d (ks.getD i zeroT) = nx at *
        generalize acc ++ (ks.take i).flatMap (varsM d) = cur at *
        generalize (ks.getD i zeroT).kind = yk at *
        generalize (ks.getD i zeroT).n = yn at *
        generalize ba (ks.getD i zeroT).name = ys at *
        generalize (ks.getD i zeroT).kids.length = yl at *
        generalize ks.getD i zeroT = y at *
        go_wp2_with (go_at_call 29; refine (HC.out _ (HKT.out.alloc _) (Nat.le_trans HR.out.2.1 (le_alloc _ _)) _ (HR.out.2.2.below ((Below.refl _ _).alloc (Nat.le_refl _) _))).mono ?_; rintro e w3 ⟨nv3, rfl, h3, HB⟩; have HB3 : Hid (Below base w w3 ∧ base ≤ w3.heap.size ∧ Txt w3 base nv3 nx) := ⟨(HR.out.1.alloc HR.out.2.1 _).trans HB, Nat.le_trans (Nat.le_trans HR.out.2.1 (le_alloc _ _)) HB.size, h3⟩; clear HB h3)
        go_roundw
        case rel =>
          exact ⟨i + 1, by omega, by go_num, HB3.out.1, HB3.out.2.1, by rw [HN.out]; exact HB3.out.2.2⟩
        case measure => simp [intOf]; omega
      · have he : i = ks.length := by omega
        subst he
        have HF : Hid (Txt wr base u0 (acc ++ ks.flatMap (varsM d)) ∧ Below base w wr) := ⟨by have := HR.out.2.2; rw [List.take_length] at this; exact this, HR.out.1⟩
        clear HR
        go_wp2
        go_ret
        exact ⟨_, rfl, HF.out.1, HF.out.2⟩
theorem vars_any : ∀ d, Vars d
  | 0 => vars_zero
  | d + 1 => vars_succ d (vars_any d)
end
section
open Go.RowKit Go.Maps Go.Sort
set_option linter.unusedVariables false

def sortB (l : List Bs) : List Bs := l.mergeSort fun x y => decide (x ≤ y)
/-- The names that a tree asks for. -/
def namesM (t : Tr) : List Bs := if checkM 16 t ≠ 0 then [] else Lib.compact (sortB (varsM 16 t))
theorem sortB_len (l : List Bs) : (sortB l).length = l.length := List.length_mergeSort _
theorem sortB_mem {l : List Bs} {x : Bs} (h : x ∈ sortB l) : x ∈ l := (List.mergeSort_perm l _).mem_iff.1 h
theorem compact_mem {l : List Bs} {x : Bs} (h : x ∈ Lib.compact l) : x ∈ l := by
  unfold Lib.compact Lib.compactUpTo at h
  obtain ⟨j, hj, rfl⟩ := List.mem_map.1 h
  have hj2 := (List.mem_filter.1 hj).1
  rw [List.mem_range] at hj2
  rw [getElem!_pos _ j (by simpa using hj2)]
  simp
theorem vars_short : ∀ (d : Nat) (t : Tr), checkM d t = 0 → ∀ x ∈ varsM d t, x.length ≤ 32
  | 0, t, h => by cases h
  | d + 1, t, h => by
    intro x hx
    unfold varsM at hx
    split at hx
    · simp only [List.mem_singleton] at hx
      rw [hx]; exact name_short h
    · obtain ⟨y, hy, hxy⟩ := List.mem_flatMap.1 hx
      exact vars_short d y ((check_fits h).2 y hy) x hxy
set_option maxRecDepth 100000 in
set_option maxHeartbeats 400000 in
theorem clip_any (a : Option Addr) (l c : Nat) (hl : l ≤ c) (hc : c ≤ 9223372036854775807) (w : World) : Calls Try.prog 31 #[.slice a l c] w fun e w' => e = .returned (.slice a l l) ∧ w' = w := by
  go_enter Try.func31, Try.ntmps31
  go_wp2
  go_ret
  exact ⟨rfl, rfl⟩
/-- A slice that reads as texts. -/
def TxtV (w : World) (v : Value) (l : List Bs) : Prop := ∃ a cap, v = .slice a l.length cap ∧ l.length ≤ cap ∧ l.length ≤ 1048576 ∧ (l = [] ∨ ∃ g, a = some ⟨g, 0, none⟩ ∧ g < w.heap.size ∧ ∀ i, i < l.length → w.cell? ⟨g, i, none⟩ = some (.string (ba (l.getD i []))))
/-- A row of texts that is gone through. -/
structure Row1 (w : World) (g : Nat) (l : List Bs) : Prop where
  lt : g < w.heap.size
  cell : ∀ i, i < l.length → w.cell? ⟨g, i, none⟩ = some (.string (ba (l.getD i [])))
  free : ∀ i, w.frozen? ⟨g, i, none⟩ = false
theorem Row1.below {w w' : World} {g : Nat} {l : List Bs} (h : Row1 w g l) (hb : Below w.heap.size w w') : Row1 w' g l :=
  ⟨Nat.lt_of_lt_of_le h.lt hb.size, fun i hi => (hb.cell (p := ⟨g, i, none⟩) h.lt).trans (h.cell i hi), fun i => (hb.frozen (p := ⟨g, i, none⟩) h.lt).trans (h.free i)⟩
theorem Row1.same {w : World} {g i : Nat} {l : List Bs} (h : Row1 w g l) (hi : i < l.length) : Row1 (w.setCell ⟨g, i, none⟩ (.string (ba (l.getD i [])))) g l := by
  refine ⟨by simpa [World.setCell] using h.lt, fun j hj => ?_, fun j => by simp only [World.frozen?_setCell]; exact h.free j⟩
  rw [cell_put (h.cell j hj)]
  split
  · rename_i e; subst e; rfl
  · rfl
theorem sort_none_any (a : Option Addr) (c : Nat) (w : World) : Calls Try.prog 30 #[.slice a 0 c] w fun e w' => e = .returned (.tuple #[]) ∧ w' = w := Try.slices_Sort_string_none a c w
theorem compact_none_any (a : Option Addr) (c : Nat) (w : World) : Calls Try.prog 32 #[.slice a 0 c] w fun e w' => e = .returned (.slice a 0 c) ∧ w' = w := Try.slices_Compact_string_empty a c w
theorem sort_any (base g cap : Nat) (l : List Bs) (hl : l.length ≤ 1048576) (w : World) (h : Txt w base (.slice (some ⟨g, 0, none⟩) l.length cap) l) : Calls Try.prog 30 #[.slice (some ⟨g, 0, none⟩) l.length cap] w fun e w' => e = .returned (.tuple #[]) ∧ Txt w' base (.slice (some ⟨g, 0, none⟩) l.length cap) (sortB l) ∧ Below base w w' := by
  rcases h.2 with ⟨e, _⟩ | ⟨g2, cap2, cur, e, hb, hg, h1, h2, h3, h4⟩
  · cases e
  · injection e with e1 e2 e3
    injection e1 with e1
    injection e1 with e1 _ _
    subst e1; subst e3
    have hlt : g < w.heap.size := (Array.getElem?_eq_some_iff.1 hg).1
    refine (Try.slices_Sort_string g 0 cap l w (holds_of_block hg (by rw [Nat.mul_one] at h4; exact h4)) hlt (by omega)).mono ?_
    rintro e w' ⟨rfl, n, os, rfl⟩
    refine ⟨rfl, ?_, ?_⟩
    · have := ownsRow_sorted (n := n) (os := os) (ts := sortB l) (sortB_len l) hb hg h1 h2 h3
      unfold Txt
      rw [sortB_len]
      exact this
    · have hbw : base ≤ w.heap.size := by omega
      exact (Below.refl _ _).grown (grownBy_sorted _) hbw (fun k hk => by injection hk with hk; omega)
theorem compact_any (base g cap : Nat) (l : List Bs) (hl : l.length ≤ 1048576) (w : World) (h : Txt w base (.slice (some ⟨g, 0, none⟩) l.length cap) l) : Calls Try.prog 32 #[.slice (some ⟨g, 0, none⟩) l.length cap] w fun e w' => e = .returned (.slice (some ⟨g, 0, none⟩) (Lib.compact l).length cap) ∧ Row1 w' g (Lib.compact l) ∧ Below base w w' ∧ (Lib.compact l).length ≤ cap ∧ cap ≤ 9223372036854775807 := by
  rcases h.2 with ⟨e, _⟩ | ⟨g2, cap2, cur, e, hb, hg, h1, h2, h3, h4⟩
  · cases e
  · injection e with e1 e2 e3
    injection e1 with e1
    injection e1 with e1 _ _
    subst e1; subst e3
    have hlt : g < w.heap.size := (Array.getElem?_eq_some_iff.1 hg).1
    have hle := Lib.compact_length_le l
    refine (Try.slices_Compact_string g 0 cap l w (holds_of_block hg (by rw [Nat.mul_one] at h4; exact h4)) (by omega) h1).mono ?_
    rintro e w' ⟨rfl, q, rfl⟩
    have hlen : (Lib.compact l ++ List.replicate (l.length - (Lib.compact l).length) []).length = l.length := by
      rw [List.length_append, List.length_replicate]; omega
    have hrow := ownsRow_sorted (n := q) (os := #[]) (ts := Lib.compact l ++ List.replicate (l.length - (Lib.compact l).length) []) hlen hb hg h1 h2 h3
    rw [grow_empty] at hrow
    have hgb := grownBy_sorted (w := w) (g := g) (n := q) (os := #[]) (Lib.compact l ++ List.replicate (l.length - (Lib.compact l).length) []).toArray
    rw [grow_empty] at hgb
    have hbw : base ≤ w.heap.size := by omega
    refine ⟨rfl, ⟨(World.ownsRow.lt hrow g rfl).2, fun i hi => ?_, fun i => World.ownsRow.frozenAt hrow i⟩, (Below.refl _ _).grown hgb hbw (fun k hk => by injection hk with hk; omega), by omega, h2⟩
    rw [World.ownsRow.cellAt hrow i (by omega), List.getElem?_map, List.getElem?_append_left hi, List.getElem?_eq_getElem hi, List.getD_eq_getElem?_getD, List.getElem?_eq_getElem hi]
    rfl
end
section
open Go.RowKit Go.Maps Go.Sort
set_option linter.unusedVariables false

theorem Txt.form {w : World} {base : Nat} {v : Value} {l : List Bs} (h : Txt w base v l) : ∃ a cap, v = .slice a l.length cap ∧ l.length ≤ cap ∧ cap ≤ 9223372036854775807 ∧ (l ≠ [] → ∃ g, a = some ⟨g, 0, none⟩) := by
  rcases h.2 with ⟨rfl, h0⟩ | ⟨g, cap, cur, rfl, _, _, h1, h2, _⟩
  · exact ⟨none, 0, by rw [h0], by omega, by decide, fun hn => absurd (List.length_eq_zero_iff.1 h0) hn⟩
  · exact ⟨_, cap, rfl, h1, h2, fun _ => ⟨g, rfl⟩⟩
def NmPost (w : World) (l : List Bs) (e : Ending) (w' : World) : Prop := ∃ v, e = .returned v ∧ TxtV w' v l ∧ Below w.heap.size w w'
set_option maxRecDepth 100000 in
set_option maxHeartbeats 1000000 in
theorem Names_any (P : Nat → Prop) (t : Tr) (k n : Int) (s : ByteArray) (a : Option Addr) (l c : Nat) (w : World) (hT : Tre w P (.agg #[.int .i64 k, .int .i64 n, .string s, .slice a l c]) t) :
    Calls Try.prog 15 #[.agg #[.int .i64 k, .int .i64 n, .string s, .slice a l c]] w (NmPost w (namesM t)) := by
  have HT : Hid (Tre w (fun g => g < w.heap.size) (.agg #[.int .i64 k, .int .i64 n, .string s, .slice a l c]) t) := hT.kept fun g _ hlt => ⟨rfl, hlt⟩
  have HC : Hid (∀ w P, Tre w P (.agg #[.int .i64 k, .int .i64 n, .string s, .slice a l c]) t → Calls Try.prog 22 #[.agg #[.int .i64 k, .int .i64 n, .string s, .slice a l c]] w fun e w' => e = .returned (.int .i64 (checkM 16 t)) ∧ Below w.heap.size w w') := fun w P h => Check_any P t k n s a l c w h
  clear hT
  by_cases h0 : checkM 16 t = 0
  · have he : namesM t = Lib.compact (sortB (varsM 16 t)) := by unfold namesM; rw [if_neg (by omega)]
    rw [he]
    have hvl := vars_len 16 t h0
    have HSh : Hid (∀ x ∈ Lib.compact (sortB (varsM 16 t)), x.length ≤ 32) := fun x hx => vars_short 16 t h0 x (sortB_mem (compact_mem hx))
    have HV : Hid (∀ w2, Tre w2 (fun g => g < w.heap.size) (.agg #[.int .i64 k, .int .i64 n, .string s, .slice a l c]) t → w.heap.size ≤ w2.heap.size → Calls Try.prog 29 #[.slice none 0 0, .agg #[.int .i64 k, .int .i64 n, .string s, .slice a l c]] w2 fun e w' => ∃ nv', e = .returned nv' ∧ Txt w' w.heap.size nv' (varsM 16 t) ∧ Below w.heap.size w2 w') := fun w2 h1 h2 => vars_any 16 w.heap.size t _ _ [] w2 h0 h1 h2 (Txt.nil _ _) (by decide)
    rw [h0] at HC
    generalize varsM 16 t = vs at *
    by_cases hvs : vs = []
    · subst hvs
      have e0 : Lib.compact (sortB []) = [] := by unfold sortB; rw [List.mergeSort_nil]; rfl
      rw [e0]
      go_enter Try.func15, Try.ntmps15
      go_wp2_with (first
        | (go_at_call 31; refine (clip_any _ 0 _ (Nat.zero_le _) hcap2 _).mono ?_; rintro e w4 ⟨rfl, rfl⟩)
        | (go_at_call 32; refine (compact_none_any _ _ _).mono ?_; rintro e w4 ⟨rfl, rfl⟩)
        | (go_at_call 30; refine (sort_none_any _ _ _).mono ?_; rintro e w4 ⟨rfl, rfl⟩)
        | (go_at_call 29; have := HB1; refine (HV.out _ (HT.out.below HB1.out) HB1.out.size).mono ?_; rintro e w2 ⟨nv, rfl, h2, HB⟩; obtain ⟨va, vc, rfl, hcap1, hcap2, _⟩ := h2.form; have HB2 : Hid (Below w.heap.size w w2) := HB1.out.trans HB; clear HB h2)
        | (go_at_call 22; refine (HC.out _ _ (HT.out.alloc _)).mono ?_; rintro e w1 ⟨rfl, HB⟩; have HB1 : Hid (Below w.heap.size w w1) := ((Below.refl _ _).alloc (Nat.le_refl _) _).trans (HB.mono (le_alloc _ _)); obtain ⟨q0, q1, q2, q3, q4⟩ := (Cell4.new w (.int .i64 k) (.int .i64 n) (.string s) (.slice a l c) 24).below HB; have hl1 : w.heap.size < w1.heap.size := World.block_lt_of_cell? _ _ q0; clear HB))
      go_loopw [19] (fun v wr => v = .int .i64 0 ∧ Hid (Below w.heap.size w wr)) (fun _ _ => 0)
      case atStart => exact ⟨rfl, HB2.out⟩
      case round =>
        obtain ⟨rfl, HR⟩ := hrel
        go_wp2
        go_ret
        exact ⟨_, rfl, ⟨_, 0, rfl, Nat.le_refl _, Nat.zero_le _, .inl rfl⟩, HR.out⟩
    · have hcl := Lib.compact_length_le (sortB vs)
      have HS : Hid (∀ g cap w2, Txt w2 w.heap.size (.slice (some ⟨g, 0, none⟩) vs.length cap) vs → Calls Try.prog 30 #[.slice (some ⟨g, 0, none⟩) vs.length cap] w2 fun e w' => e = .returned (.tuple #[]) ∧ Txt w' w.heap.size (.slice (some ⟨g, 0, none⟩) vs.length cap) (sortB vs) ∧ Below w.heap.size w2 w') := fun g cap w2 h => sort_any _ g cap vs (by omega) w2 h
      have HCm : Hid (∀ g cap w2, Txt w2 w.heap.size (.slice (some ⟨g, 0, none⟩) (sortB vs).length cap) (sortB vs) → Calls Try.prog 32 #[.slice (some ⟨g, 0, none⟩) (sortB vs).length cap] w2 fun e w' => e = .returned (.slice (some ⟨g, 0, none⟩) (Lib.compact (sortB vs)).length cap) ∧ Row1 w' g (Lib.compact (sortB vs)) ∧ Below w.heap.size w2 w' ∧ (Lib.compact (sortB vs)).length ≤ cap ∧ cap ≤ 9223372036854775807) := fun g cap w2 h => compact_any _ g cap (sortB vs) (by rw [sortB_len]; omega) w2 h
      rw [sortB_len] at HCm hcl
      have hcl2 : (Lib.compact (sortB vs)).length ≤ 65536 := by omega
      have HF : Hid (∀ w2 v, Txt w2 w.heap.size v vs → ∃ g cap, v = .slice (some ⟨g, 0, none⟩) vs.length cap) := fun w2 v h => by
        obtain ⟨a, cap, rfl, _, _, h4⟩ := h.form
        obtain ⟨g, rfl⟩ := h4 hvs
        exact ⟨g, cap, rfl⟩
      generalize Lib.compact (sortB vs) = cs at *
      generalize sortB vs = ss at *
      generalize hN : vs.length = N at *
      clear hvl hcl hvs
      go_enter Try.func15, Try.ntmps15
      go_wp2_with (first
        | (go_at_call 31; have := HB4; refine (clip_any _ _ _ HB4.out.2.2.1 HB4.out.2.2.2 _).mono ?_; rintro e w4 ⟨rfl, rfl⟩)
        | (go_at_call 32; have := HB3; refine (HCm.out _ _ _ HB3.out.2).mono ?_; rintro e w4 ⟨rfl, h4, HB, hc1, hc2⟩; have HB4 : Hid (Below w.heap.size w w4 ∧ Row1 w4 g cs ∧ cs.length ≤ cap ∧ cap ≤ 9223372036854775807) := ⟨HB3.out.1.trans HB, h4, hc1, hc2⟩; clear HB h4 hc1 hc2)
        | (go_at_call 30; have := HB2; refine (HS.out _ _ _ HB2.out.2).mono ?_; rintro e w3 ⟨rfl, h3, HB⟩; have HB3 : Hid (Below w.heap.size w w3 ∧ Txt w3 w.heap.size (.slice (some ⟨g, 0, none⟩) N cap) ss) := ⟨HB2.out.1.trans HB, h3⟩; clear HB h3)
        | (go_at_call 29; have := HB1; refine (HV.out _ (HT.out.below HB1.out) HB1.out.size).mono ?_; rintro e w2 ⟨nv, rfl, h2, HB⟩; obtain ⟨g, cap, rfl⟩ := HF.out _ _ h2; have HG : Hid (w.heap.size ≤ g) := (World.ownsRow.lt h2 g rfl).1; have HB2 : Hid (Below w.heap.size w w2 ∧ Txt w2 w.heap.size (.slice (some ⟨g, 0, none⟩) N cap) vs) := ⟨HB1.out.trans HB, h2⟩; clear HB h2)
        | (go_at_call 22; refine (HC.out _ _ (HT.out.alloc _)).mono ?_; rintro e w1 ⟨rfl, HB⟩; have HB1 : Hid (Below w.heap.size w w1) := ((Below.refl _ _).alloc (Nat.le_refl _) _).trans (HB.mono (le_alloc _ _)); obtain ⟨q0, q1, q2, q3, q4⟩ := (Cell4.new w (.int .i64 k) (.int .i64 n) (.string s) (.slice a l c) 24).below HB; have hl1 : w.heap.size < w1.heap.size := World.block_lt_of_cell? _ _ q0; clear HB))
      go_loopw [19] (fun v wr => ∃ (i : Nat), i ≤ cs.length ∧ v = .int .i64 i ∧ Hid (Below w.heap.size w wr ∧ Row1 wr g cs)) (fun v _ => cs.length - (intOf v).toNat)
      case atStart => exact ⟨0, Nat.zero_le _, rfl, HB4.out.1, HB4.out.2.1⟩
      case round =>
        obtain ⟨i, hi, rfl, HR⟩ := hrel
        by_cases hlt : i < cs.length
        · have x0 := HR.out.2.cell i hlt
          have hgl := HR.out.2.lt
          have HC1 : Hid (∀ w, Calls Try.prog 33 #[.string (ba (cs.getD i []))] w fun e w' => e = .returned (.string (ba (cs.getD i []))) ∧ Below w.heap.size w w') := clone_any _ (by rw [ba_size]; have := HSh.out (cs.getD i []) (by rw [List.getD_eq_getElem?_getD, List.getElem?_eq_getElem hlt]; exact List.getElem_mem hlt); omega)
          have HSt : Hid (∀ w3, Row1 w3 g cs → Row1 (w3.setCell ⟨g, i, none⟩ (.string (ba (cs.getD i [])))) g cs ∧ w3.cell? ⟨g, i, none⟩ = some (.string (ba (cs.getD i [])))) := fun w3 h => ⟨h.same hlt, h.cell i hlt⟩
          generalize ba (cs.getD i []) = nm at *
          go_wp2_with (go_at_call 33; refine (HC1.out _).mono ?_; rintro e w5 ⟨rfl, HB⟩; have HB5 : Hid (Below w.heap.size w w5 ∧ Row1 w5 g cs) := ⟨HR.out.1.trans (HB.mono HR.out.1.size), HR.out.2.below HB⟩; have y0 := (HSt.out _ HB5.out.2).2; have y1 := HB5.out.2.free; have y2 := HB5.out.2.lt; clear HB)
          go_roundw
          case rel =>
            exact ⟨i + 1, by omega, by go_num, HB5.out.1.setCell (p := ⟨g, i, none⟩) HG.out _, (HSt.out _ HB5.out.2).1⟩
          case measure => simp [intOf]; omega
        · have he : i = cs.length := by omega
          subst he
          have HR2 := HR
          clear HR
          go_wp2
          go_ret
          exact ⟨_, rfl, ⟨_, cs.length, rfl, Nat.le_refl _, by omega, .inr ⟨g, rfl, HR2.out.2.lt, HR2.out.2.cell⟩⟩, HR2.out.1⟩
  · have he : namesM t = [] := by unfold namesM; rw [if_pos h0]
    rw [he]
    have h1 : ((checkM 16 t : Int) != 0) = true := by simp; omega
    generalize checkM 16 t = ck at *
    go_enter Try.func15, Try.ntmps15
    go_wp2_with (go_at_call 22; refine (HC.out _ _ (HT.out.alloc _)).mono ?_; rintro e w1 ⟨rfl, HB⟩)
    go_ret
    exact ⟨_, rfl, ⟨none, 0, rfl, Nat.le_refl _, Nat.zero_le _, .inl rfl⟩, ((Below.refl _ _).alloc (Nat.le_refl _) _).trans (HB.mono (le_alloc _ _))⟩
end
end Go.Proofs.Ytdnpbnhfakjhoaa
