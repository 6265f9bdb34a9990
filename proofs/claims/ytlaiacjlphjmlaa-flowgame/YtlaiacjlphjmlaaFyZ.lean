/-
  The library's small calls (Reverse of one, Sort and Compact of two in their order and of none, Clone): contracts.
-/
import Derived.Test.YtlaiacjlphjmlaaLaid
import Derived.Test.YtlaiacjlphjmlaaFwE
import Derived.Deep.RegionHeld3
import Derived.Test.YtlaiacjlphjmlaaFwG
import Derived.Test.YtlaiacjlphjmlaaFxZ
import Derived.Test.YtlaiacjlphjmlaaSmZ
namespace Go.Proofs.Ytlaiacjlphjmlaa
section
open Go.RowKit
set_option linter.unusedVariables false

set_option maxRecDepth 100000 in
theorem clone_any (s : ByteArray) (hs : s.size ≤ 281474976710656) (w : World) : Calls Try.prog 40 #[.string s] w fun e w' => e = .returned (.string s) ∧ Below w.heap.size w w' := by
  have HC : Hid (∀ w, Calls Try.prog 52 #[.string s] w fun e w' => e = .returned (.string s) ∧ Below w.heap.size w w') := fun w => Try.stringslite_Clone s w hs
  go_enter Try.func40, Try.ntmps40
  go_wp2_with (go_at_call 52; refine (HC.out _).mono ?_; rintro e w1 ⟨rfl, HB⟩)
  go_ret
  exact ⟨rfl, HB⟩
set_option maxRecDepth 100000 in
theorem reverse_one (a : Option Addr) (c : Nat) (w : World) : Calls Try.prog 27 #[.slice a 1 c] w fun e w' => e = .returned (.tuple #[]) ∧ w' = w := by
  go_enter Try.func27, Try.ntmps27
  go_wp2
  go_loopw [2, 3] (fun i j wr => i = .int .i64 0 ∧ j = .int .i64 0 ∧ wr = w) (fun _ _ _ => 0)
  case atStart => exact ⟨rfl, by go_num, rfl⟩
  case round =>
    obtain ⟨rfl, rfl, rfl⟩ := hrel
    go_wp2
    go_end0
    exact ⟨rfl, rfl⟩
set_option maxRecDepth 100000 in
theorem nan_any (x : ByteArray) (w : World) : Calls Try.prog 81 #[.string x] w fun e w' => e = .returned (.bool false) ∧ w' = w := by
  go_enter Try.func81, Try.ntmps81
  go_wp2
  go_ret
  exact ⟨by simp, rfl⟩
theorem names_less : Op.bytesLess [115, 104, 105, 112] [112, 97, 121] = false := by first | decide | simp [Op.bytesLess]
set_option maxRecDepth 100000 in
theorem less_names (w : World) : Calls Try.prog 66 #[.string ⟨#[115, 104, 105, 112]⟩, .string ⟨#[112, 97, 121]⟩] w fun e w' => e = .returned (.bool false) ∧ w' = w := by
  have HN : Hid (∀ x w, Calls Try.prog 81 #[.string x] w fun e w' => e = .returned (.bool false) ∧ w' = w) := fun x w => nan_any x w
  go_enter Try.func66, Try.ntmps66
  go_wp2_with (go_at_call 81; refine (HN.out _ _).mono ?_; rintro e w1 ⟨rfl, rfl⟩)
  go_ret
  exact ⟨by show Ending.returned (.bool (Op.bytesLess [115, 104, 105, 112] [112, 97, 121])) = _; rw [names_less], rfl⟩
set_option maxRecDepth 100000 in
theorem len64_small (x : Int) (h0 : x = 0 ∨ x = 2) (w : World) : Calls Try.prog 70 #[.int .u64 x] w fun e w' => e = .returned (.int .i64 x) ∧ w' = w := by
  rcases h0 with rfl | rfl
  · go_enter Try.func70, Try.ntmps70
    go_wp2
    go_ret
    exact ⟨by kernel_rfl, rfl⟩
  · go_enter Try.func70, Try.ntmps70
    go_wp2
    go_ret
    exact ⟨by kernel_rfl, rfl⟩
set_option maxRecDepth 100000 in
theorem len_small (x : Int) (h0 : x = 0 ∨ x = 2) (w : World) : Calls Try.prog 54 #[.int .u64 x] w fun e w' => e = .returned (.int .i64 x) ∧ w' = w := by
  have HL : Hid (∀ w, Calls Try.prog 70 #[.int .u64 x] w fun e w' => e = .returned (.int .i64 x) ∧ w' = w) := fun w => len64_small x h0 w
  rcases h0 with rfl | rfl
  · go_enter Try.func54, Try.ntmps54
    go_wp2_with (go_at_call 70; refine (HL.out _).mono ?_; rintro e w1 ⟨rfl, rfl⟩)
    go_ret
    exact ⟨rfl, rfl⟩
  · go_enter Try.func54, Try.ntmps54
    go_wp2_with (go_at_call 70; refine (HL.out _).mono ?_; rintro e w1 ⟨rfl, rfl⟩)
    go_ret
    exact ⟨rfl, rfl⟩
/-- The two names in their order. -/
structure Pay2 (w : World) (g : Nat) : Prop where
  c0 : w.cell? ⟨g, 0, none⟩ = some (.string ⟨#[112, 97, 121]⟩)
  c1 : w.cell? ⟨g, 1, none⟩ = some (.string ⟨#[115, 104, 105, 112]⟩)
theorem Pay2.below {w w' : World} {g : Nat} (h : Pay2 w g) (hb : Below w.heap.size w w') : Pay2 w' g := by
  have hg := World.block_lt_of_cell? _ _ h.c0
  exact ⟨(hb.cell (p := ⟨g, 0, none⟩) hg).trans h.c0, (hb.cell (p := ⟨g, 1, none⟩) hg).trans h.c1⟩
set_option maxRecDepth 100000 in
set_option maxHeartbeats 400000 in
theorem insert_two (g c : Nat) (hc : 2 ≤ c) (w : World) (h : Pay2 w g) : Calls Try.prog 60 #[.slice (some ⟨g, 0, none⟩) 2 c, .int .i64 0, .int .i64 2] w fun e w' => e = .returned (.tuple #[]) ∧ Below w.heap.size w w' := by
  have HL : Hid (∀ w, Calls Try.prog 66 #[.string ⟨#[115, 104, 105, 112]⟩, .string ⟨#[112, 97, 121]⟩] w fun e w' => e = .returned (.bool false) ∧ w' = w) := fun w => less_names w
  have HP : Hid (∀ wr, Below w.heap.size w wr → Pay2 wr g) := fun wr q => h.below q
  clear h
  go_enter Try.func60, Try.ntmps60
  go_wp2
  go_loopw [6] (fun i wr => (i = .int .i64 1 ∨ i = .int .i64 2) ∧ Hid (Below w.heap.size w wr)) (fun i _ => 2 - (intOf i).toNat)
  case atStart => exact ⟨.inl (by go_num), Below.refl _ _⟩
  case round =>
    obtain ⟨rfl | rfl, HB⟩ := hrel
    · go_wp2
      go_loopw [7] (fun j wr2 => j = .int .i64 1 ∧ Hid (Below w.heap.size w wr2)) (fun _ _ => 0)
      case atStart => exact ⟨rfl, HB.out⟩
      case round =>
        clear HB
        obtain ⟨rfl, HB⟩ := hrel
        obtain ⟨c0, c1⟩ := HP.out _ HB.out
        have hg := World.block_lt_of_cell? _ _ c0
        go_wp2
        go_quiet (first | (go_at_call 66; refine Calls.quiet_of_same (HL.out _)))
        go_wp2
        go_roundw
        case rel => exact ⟨.inr (by go_num), below_drewN HB.out nq⟩
        case measure => simp [intOf]
    · go_wp2
      go_end0
      exact ⟨rfl, HB.out⟩
set_option maxRecDepth 100000 in
theorem insert_none (a : Option Addr) (c : Nat) (w : World) : Calls Try.prog 60 #[.slice a 0 c, .int .i64 0, .int .i64 0] w fun e w' => e = .returned (.tuple #[]) ∧ Below w.heap.size w w' := by
  go_enter Try.func60, Try.ntmps60
  go_wp2
  go_loopw [6] (fun i wr => i = .int .i64 1 ∧ wr = w) (fun i _ => 0)
  case atStart => exact ⟨by go_num, rfl⟩
  case round =>
    obtain ⟨rfl, rfl⟩ := hrel
    go_wp2
    go_end0
    exact ⟨rfl, Below.refl _ _⟩
set_option maxRecDepth 100000 in
set_option maxHeartbeats 800000 in
theorem pdq_two (g c : Nat) (hc : 2 ≤ c) (w : World) (h : Pay2 w g) : Calls Try.prog 53 #[.slice (some ⟨g, 0, none⟩) 2 c, .int .i64 0, .int .i64 2, .int .i64 2] w fun e w' => e = .returned (.tuple #[]) ∧ Below w.heap.size w w' := by
  have HI : Hid (Calls Try.prog 60 #[.slice (some ⟨g, 0, none⟩) 2 c, .int .i64 0, .int .i64 2] w fun e w' => e = .returned (.tuple #[]) ∧ Below w.heap.size w w') := insert_two g c hc w h
  go_enter Try.func53, Try.ntmps53
  go_wp2
  go_loopw [1, 2, 3] (fun a b l wr => a = .int .i64 0 ∧ b = .int .i64 2 ∧ l = .int .i64 2 ∧ wr = w) (fun _ _ _ _ => 0)
  case atStart => exact ⟨rfl, rfl, rfl, rfl⟩
  case round =>
    obtain ⟨rfl, rfl, rfl, rfl⟩ := hrel
    go_wp2_with (go_at_call 60; refine HI.out.mono ?_; rintro e w1 ⟨rfl, HB⟩)
    exact bodyPost_ret (v := .tuple #[]) (by simp [results, Try.results53, go_sem]) rfl ⟨rfl, HB⟩
set_option maxRecDepth 100000 in
theorem sort_two (g c : Nat) (hc : 2 ≤ c) (w : World) (h : Pay2 w g) : Calls Try.prog 41 #[.slice (some ⟨g, 0, none⟩) 2 c] w fun e w' => e = .returned (.tuple #[]) ∧ Below w.heap.size w w' := by
  have HI : Hid (Calls Try.prog 53 #[.slice (some ⟨g, 0, none⟩) 2 c, .int .i64 0, .int .i64 2, .int .i64 2] w fun e w' => e = .returned (.tuple #[]) ∧ Below w.heap.size w w') := pdq_two g c hc w h
  have HL : Hid (∀ w, Calls Try.prog 54 #[.int .u64 2] w fun e w' => e = .returned (.int .i64 2) ∧ w' = w) := fun w => len_small 2 (by decide) w
  go_enter Try.func41, Try.ntmps41
  go_wp2_with (first
    | (go_at_call 54; refine (HL.out _).mono ?_; rintro e w1 ⟨rfl, rfl⟩)
    | (go_at_call 53; refine HI.out.mono ?_; rintro e w1 ⟨rfl, HB⟩))
  go_end0
  exact ⟨rfl, HB⟩
set_option maxRecDepth 100000 in
set_option maxHeartbeats 800000 in
theorem pdq_none (a : Option Addr) (c : Nat) (w : World) : Calls Try.prog 53 #[.slice a 0 c, .int .i64 0, .int .i64 0, .int .i64 0] w fun e w' => e = .returned (.tuple #[]) ∧ Below w.heap.size w w' := by
  have HI : Hid (Calls Try.prog 60 #[.slice a 0 c, .int .i64 0, .int .i64 0] w fun e w' => e = .returned (.tuple #[]) ∧ Below w.heap.size w w') := insert_none a c w
  go_enter Try.func53, Try.ntmps53
  go_wp2
  go_loopw [1, 2, 3] (fun a b l wr => a = .int .i64 0 ∧ b = .int .i64 0 ∧ l = .int .i64 0 ∧ wr = w) (fun _ _ _ _ => 0)
  case atStart => exact ⟨rfl, rfl, rfl, rfl⟩
  case round =>
    obtain ⟨rfl, rfl, rfl, rfl⟩ := hrel
    go_wp2_with (go_at_call 60; refine HI.out.mono ?_; rintro e w1 ⟨rfl, HB⟩)
    exact bodyPost_ret (v := .tuple #[]) (by simp [results, Try.results53, go_sem]) rfl ⟨rfl, HB⟩
set_option maxRecDepth 100000 in
theorem sort_none (a : Option Addr) (c : Nat) (w : World) : Calls Try.prog 41 #[.slice a 0 c] w fun e w' => e = .returned (.tuple #[]) ∧ Below w.heap.size w w' := by
  have HI : Hid (Calls Try.prog 53 #[.slice a 0 c, .int .i64 0, .int .i64 0, .int .i64 0] w fun e w' => e = .returned (.tuple #[]) ∧ Below w.heap.size w w') := pdq_none a c w
  have HL : Hid (∀ w, Calls Try.prog 54 #[.int .u64 0] w fun e w' => e = .returned (.int .i64 0) ∧ w' = w) := fun w => len_small 0 (by decide) w
  go_enter Try.func41, Try.ntmps41
  go_wp2_with (first
    | (go_at_call 54; refine (HL.out _).mono ?_; rintro e w1 ⟨rfl, rfl⟩)
    | (go_at_call 53; refine HI.out.mono ?_; rintro e w1 ⟨rfl, HB⟩))
  go_end0
  exact ⟨rfl, HB⟩
set_option maxRecDepth 100000 in
theorem compact_none (a : Option Addr) (c : Nat) (w : World) : Calls Try.prog 42 #[.slice a 0 c] w fun e w' => e = .returned (.slice a 0 c) ∧ w' = w := by
  go_enter Try.func42, Try.ntmps42
  go_wp2
  go_ret
  exact ⟨rfl, rfl⟩
set_option maxRecDepth 100000 in
set_option maxHeartbeats 800000 in
theorem compact_two (g c : Nat) (hc : 2 ≤ c) (hc2 : c ≤ 9223372036854775807) (w : World) (h : Pay2 w g) : Calls Try.prog 42 #[.slice (some ⟨g, 0, none⟩) 2 c] w fun e w' => e = .returned (.slice (some ⟨g, 0, none⟩) 2 c) ∧ Below w.heap.size w w' := by
  have HP : Hid (∀ wr, Below w.heap.size w wr → Pay2 wr g) := fun wr q => h.below q
  clear h
  go_enter Try.func42, Try.ntmps42
  go_wp2
  go_loopw [3] (fun i wr => (i = .int .i64 1 ∨ i = .int .i64 2) ∧ Hid (Below w.heap.size w wr)) (fun i _ => 2 - (intOf i).toNat)
  case atStart => exact ⟨.inl (by go_num), Below.refl _ _⟩
  case round =>
    obtain ⟨rfl | rfl, HB⟩ := hrel
    · obtain ⟨c0, c1⟩ := HP.out _ HB.out
      have hg := World.block_lt_of_cell? _ _ c0
      go_wp2
      go_region
      all_goals go_wp2
      all_goals (
        go_roundw
        case rel => exact ⟨.inr (by go_num), HB.out.drew⟩
        case measure => simp [intOf])
    · go_wp2
      go_ret
      exact ⟨rfl, HB.out⟩
end
section
open Go.RowKit
set_option linter.unusedVariables false

def strR : Rdr Bs := fun w P cs x => cs = [.string (ba x)]
theorem strR_kept : KeptR strR := fun _ _ _ _ _ _ h _ => h
theorem infoS : (Try.prog.info? 9).map (fun i => (i.zero, i.size, i.bytes)) = some (some (.string ⟨#[]⟩), 1, 16) := by kernel_rfl
theorem list_str {ops : Array Oper} {rest : List Oper} {o : Oper} {a : Act} {Q : Exit → Act → World → Prop} {wX : World} (hgd : o.guard = none) (s x : Operand)
    (ho : o.op = .call { callee := .builtin .append, args := #[s, x], argTypes := #[51, 51] }) {B g : Nat} {v : Value} {y : Bs} {ts : List Bs}
    (hl : Gw strR 9 1 wX B v ts) (hbase : B ≤ wX.heap.size) (hs : a.eval s = v) (hx : a.eval x = .slice (some ⟨g, 0, none⟩) 1 1) (hg : g = wX.heap.size) (hlen : ts.length ≤ 1048576)
    (h : ∀ v' w', Gw strR 9 1 w' B v' (ts ++ [y]) → (wX.alloc (.cells #[.string (ba y)] 9)).grownBy w' v.ownBlock → wpList Try.prog ops Q rest (a.put o.dst v') w') : wpList Try.prog ops Q (o :: rest) a (wX.alloc (.cells #[.string (ba y)] 9)) :=
  list_gw strR_kept 51 9 1 16 _ hgd s x ho Try.underlying51 infoS rfl (by decide) (by decide) hl rfl (by simp [Value.oneCell']) rfl hbase hs hx hg hlen h
/-- The names of the places of a kind. -/
def nmsK (k : Int) (ps : List Pl) : List Bs := ps.flatMap fun p => if p.kind = k then [p.name] else []
theorem nms_next (k : Int) {ps : List Pl} {i : Nat} (h : i < ps.length) : nmsK k (ps.take (i + 1)) = nmsK k (ps.take i) ++ (if (ps.getD i zeroP).kind = k then [(ps.getD i zeroP).name] else []) := by
  unfold nmsK
  rw [List.take_succ_eq_append_getElem h, List.flatMap_append]
  simp [List.getD_eq_getElem?_getD, h]
theorem nms_len (k : Int) : ∀ (ps : List Pl), (nmsK k ps).length ≤ ps.length
  | [] => Nat.le_refl _
  | p :: ps => by
    have := nms_len k ps
    have e : nmsK k (p :: ps) = (if p.kind = k then [p.name] else []) ++ nmsK k ps := List.flatMap_cons
    rw [e, List.length_append]
    split <;> simp only [List.length_cons, List.length_nil] <;> omega
theorem nms_len_take (k : Int) (ps : List Pl) (i : Nat) (h : i ≤ 4096) : (nmsK k (ps.take i)).length ≤ 1048576 := by
  have := nms_len k (ps.take i)
  rw [List.length_take] at this
  omega
set_option maxRecDepth 100000 in
set_option maxHeartbeats 1600000 in
theorem names_any (P : Nat → Prop) (k : Int) (ps : List Pl) (a : Option Addr) (n c N : Nat) (w : World) (hps : PlsV w P (.slice a n c) ps) (hn : ps.length = n) (h4 : n ≤ 4096) (hnm : ∀ p ∈ ps, p.name.length ≤ 1000)
    (hS : ∀ v w1, Gw strR 9 1 w1 w.heap.size v (nmsK k ps) → Calls Try.prog 41 #[v] w1 fun e w' => e = .returned (.tuple #[]) ∧ Below w1.heap.size w1 w')
    (hC : ∀ v w1, Gw strR 9 1 w1 w.heap.size v (nmsK k ps) → Calls Try.prog 42 #[v] w1 fun e w' => (∃ a' c', e = .returned (.slice a' N c')) ∧ Below w1.heap.size w1 w') :
    Calls Try.prog 28 #[.slice a n c, .int .i64 k] w fun e w' => ∃ a' c', e = .returned (.slice a' N c') ∧ Below w.heap.size w w' := by
  have HP : Hid (∀ i wr, i < n → Below w.heap.size w wr → ∃ qb qo aa ca ao co, a = some ⟨qb, qo, none⟩ ∧ PlAt wr P qb (qo + i * 5) (ps.getD i zeroP) aa ca ao co) := fun i wr hi hb => by
    obtain ⟨qb, qo, aa, ca, ao, co, e1, e2, e3⟩ := hps.at i (by rw [hn]; exact hi)
    exact ⟨qb, qo, aa, ca, ao, co, e1, e3.kept e2 (kept_below hb)⟩
  have hcap := hps.cap
  have HN : Hid (∀ i, i < n → nmsK k (ps.take (i + 1)) = nmsK k (ps.take i) ++ (if (ps.getD i zeroP).kind = k then [(ps.getD i zeroP).name] else [])) := fun i hi => nms_next k (by omega)
  have HL : Hid (∀ i, i ≤ n → (nmsK k (ps.take i)).length ≤ 1048576) := fun i hi => nms_len_take k ps i (by omega)
  have HSz : Hid (∀ i, i < n → (ba (ps.getD i zeroP).name).size ≤ 281474976710656) := fun i hi => by
    have := hnm (ps.getD i zeroP) (by rw [List.getD_eq_getElem?_getD, List.getElem?_eq_getElem (by omega)]; exact List.getElem_mem _)
    show _ ≤ _
    have e : (ba (ps.getD i zeroP).name).size = (ps.getD i zeroP).name.length := by simp [ba, ByteArray.size]
    omega
  have HE : Hid (nmsK k (ps.take n) = nmsK k ps) := by show _ = _; rw [← hn, List.take_length]
  have HCl : Hid (∀ s w, s.size ≤ 281474976710656 → Calls Try.prog 40 #[.string s] w fun e w' => e = .returned (.string s) ∧ Below w.heap.size w w') := fun s w h => clone_any s h w
  have HS : Hid (∀ v w1, Gw strR 9 1 w1 w.heap.size v (nmsK k ps) → Calls Try.prog 41 #[v] w1 fun e w' => e = .returned (.tuple #[]) ∧ Below w1.heap.size w1 w') := hS
  have HC : Hid (∀ v w1, Gw strR 9 1 w1 w.heap.size v (nmsK k ps) → Calls Try.prog 42 #[v] w1 fun e w' => (∃ a' c', e = .returned (.slice a' N c')) ∧ Below w1.heap.size w1 w') := hC
  clear hps hnm hS hC hn
  go_enter Try.func28, Try.ntmps28
  go_wp2
  go_loopw [5, 10] (fun v x wr => ∃ (i : Nat), i ≤ n ∧ x = .int .i64 i ∧ Hid (Gw strR 9 1 wr w.heap.size v (nmsK k (ps.take i)) ∧ Below w.heap.size w wr)) (fun _ x _ => n - (intOf x).toNat)
  case atStart => exact ⟨0, Nat.zero_le _, rfl, Gw.nil _ _ _ _ _, Below.refl _ _⟩
  case round =>
    obtain ⟨i, hi, rfl, HG⟩ := hrel
    by_cases hlt : i < n
    · obtain ⟨qb, qo, aa, ca, ao, co, rfl, hPA⟩ := HP.out i wr hlt HG.out.2
      obtain ⟨p0, p1, p2, p3, p4, _⟩ := hPA
      have hbl := World.block_lt_of_cell? _ _ p0
      have HSi : Hid ((ba (ps.getD i zeroP).name).size ≤ 281474976710656) := HSz.out i hlt
      have HNi : Hid (nmsK k (ps.take (i + 1)) = nmsK k (ps.take i) ++ (if (ps.getD i zeroP).kind = k then [(ps.getD i zeroP).name] else [])) := HN.out i hlt
      have HLi : Hid ((nmsK k (ps.take i)).length ≤ 1048576) := HL.out i hi
      clear HN HL HP HSz HE HS HC
      generalize (ps.getD i zeroP).name = nm at *
      generalize (ps.getD i zeroP).n = pn at *
      generalize (ps.getD i zeroP).arg.length = al at *
      generalize (ps.getD i zeroP).out.length = ol at *
      generalize (ps.getD i zeroP).kind = kk at *
      by_cases hk : kk = k
      · subst hk
        have HNj : Hid (nmsK kk (ps.take (i + 1)) = nmsK kk (ps.take i) ++ [nm]) := by have := HNi.out; rw [if_pos rfl] at this; exact this
        clear HNi
        generalize ht : nmsK kk (ps.take i) = ts at *
        clear ht
        go_wp2_with (first
          | (go_at_call 40; refine (HCl.out _ _ HSi.out).mono ?_; rintro e w5 ⟨rfl, HB⟩; have HB5 : Hid (Gw strR 9 1 w5 w.heap.size u5 ts ∧ Below w.heap.size w w5) := ⟨HG.out.1.below strR_kept (((Below.refl _ _).alloc (Nat.le_refl _) _).trans (HB.mono (le_alloc _ _))), (HG.out.2.alloc HG.out.2.size _).trans (HB.mono (Nat.le_trans HG.out.2.size (le_alloc _ _)))⟩; clear HB)
          | (at_builtin; refine list_str rfl (.tmp 18) (.tmp 22) rfl HB5.out.1 HB5.out.2.size rfl rfl rfl HLi.out ?_; intro v6 w6 h6 hg6; have G6 : Hid (Gw strR 9 1 w6 w.heap.size v6 (ts ++ [nm]) ∧ Below w.heap.size w w6) := ⟨h6, (HB5.out.2.alloc HB5.out.2.size _).grown hg6 (Nat.le_trans HB5.out.2.size (le_alloc _ _)) HB5.out.1.own⟩; clear h6 hg6))
        go_roundw
        case rel => exact ⟨i + 1, by omega, by go_num, by rw [HNj.out]; exact G6.out.1, G6.out.2⟩
        case measure => simp [intOf]; omega
      · have HNj : Hid (nmsK k (ps.take (i + 1)) = nmsK k (ps.take i)) := by have := HNi.out; rw [if_neg hk, List.append_nil] at this; exact this
        have hk2 : (kk == k) = false := by rw [beq_eq_false_iff_ne]; exact hk
        clear HNi
        generalize ht : nmsK k (ps.take i) = ts at *
        clear ht
        go_wp2_with fail
        go_roundw
        case rel => exact ⟨i + 1, by omega, by go_num, by rw [HNj.out]; exact HG.out.1.below strR_kept ((Below.refl _ _).alloc (Nat.le_refl _) _), HG.out.2.alloc HG.out.2.size _⟩
        case measure => simp [intOf]; omega
    · obtain rfl : i = n := by omega
      have HG2 : Hid (Gw strR 9 1 wr w.heap.size u5 (nmsK k ps) ∧ Below w.heap.size w wr) := by have := HG.out; rw [HE.out] at this; exact this
      clear HG HE HN HL HP HSz
      go_wp2_with (first
        | (go_at_call 41; refine (HS.out _ _ HG2.out.1).mono ?_; rintro e w5 ⟨rfl, HB⟩; have HB5 : Hid (Gw strR 9 1 w5 w.heap.size u5 (nmsK k ps) ∧ Below w.heap.size w w5) := ⟨HG2.out.1.below strR_kept HB, HG2.out.2.trans (HB.mono HG2.out.2.size)⟩; clear HB)
        | (go_at_call 42; refine (HC.out _ _ HB5.out.1).mono ?_; rintro e w6 ⟨⟨a6, c6, rfl⟩, HB⟩; have HB6 : Hid (Below w.heap.size w w6) := HB5.out.2.trans (HB.mono HB5.out.2.size); clear HB))
      go_ret
      exact ⟨_, _, rfl, HB6.out⟩
theorem Gw.names2 {w : World} {B : Nat} {v : Value} (h : Gw strR 9 1 w B v [[112, 97, 121], [115, 104, 105, 112]]) : ∃ g c, v = .slice (some ⟨g, 0, none⟩) 2 c ∧ 2 ≤ c ∧ c ≤ 9223372036854775807 ∧ Pay2 w g := by
  obtain ⟨xs, h1, h2⟩ := h
  have g0 : xs.take 1 = _ := h2 0 (by decide)
  have g1 : (xs.drop 1).take 1 = _ := h2 1 (by decide)
  rcases h1.2 with ⟨_, e⟩ | ⟨g, cap, cur, rfl, hb, hg, q1, q2, q3, q4⟩
  · cases e
  · refine ⟨g, cap, rfl, q1, q2, ?_, ?_⟩
    · have := World.ownsRow.cellAt h1 0 (by decide)
      rw [this]
      match xs, g0 with
      | x :: _, g0 => simp at g0; simp [g0]; rfl
    · have := World.ownsRow.cellAt h1 1 (by decide)
      rw [this]
      match xs, g1 with
      | _ :: x :: _, g1 => simp at g1; simp [g1]; rfl
set_option maxRecDepth 100000 in
set_option maxHeartbeats 800000 in
theorem Forks_two (fb a1 n1 c1 a2 n2 c2 : Nat) (w : World) (h : RowN w fb [0, 0, 1, 1, 1, 0]) : Calls Try.prog 14 #[.agg #[.slice (some ⟨fb, 0, none⟩) 6 6, .slice (some ⟨a1, 0, none⟩) n1 c1, .slice (some ⟨a2, 0, none⟩) n2 c2], .int .i64 2] w fun e w' => ∃ a c, e = .returned (.slice a 1 c) ∧ Below w.heap.size w w' := by
  have HR : Hid (∀ a c w, Calls Try.prog 27 #[.slice a 1 c] w fun e w' => e = .returned (.tuple #[]) ∧ w' = w) := fun a c w => reverse_one a c w
  have k2 : w.cell? ⟨fb, 2, none⟩ = some (.int .i64 1) := h.c 2 (by decide)
  have k1 : w.cell? ⟨fb, 1, none⟩ = some (.int .i64 0) := h.c 1 (by decide)
  have hl := World.block_lt_of_cell? _ _ k2
  clear h
  have HC : Hid (∀ (W w6 : World), W = w.alloc (.cells #[.slice (some ⟨fb, 0, none⟩) 6 6, .slice (some ⟨a1, 0, none⟩) n1 c1, .slice (some ⟨a2, 0, none⟩) n2 c2] 29) → Below W.heap.size W w6 → w6.cell? ⟨w.heap.size, 0, none⟩ = some (.slice (some ⟨fb, 0, none⟩) 6 6) ∧ w6.cell? ⟨fb, 1, none⟩ = some (.int .i64 0) ∧ w.heap.size < w6.heap.size ∧ fb < w6.heap.size ∧ Below w.heap.size w w6) := fun W w6 e q => by
    subst e
    have z := (Cell3.new w (.slice (some ⟨fb, 0, none⟩) 6 6) (.slice (some ⟨a1, 0, none⟩) n1 c1) (.slice (some ⟨a2, 0, none⟩) n2 c2) 29)
    have hz := World.block_lt_of_cell? _ _ z.c0
    have q0 := (q.cell (p := ⟨w.heap.size, 0, none⟩) hz).trans z.c0
    have B0 : Below w.heap.size w (w.alloc (.cells #[.slice (some ⟨fb, 0, none⟩) 6 6, .slice (some ⟨a1, 0, none⟩) n1 c1, .slice (some ⟨a2, 0, none⟩) n2 c2] 29)) := (Below.refl _ _).alloc (Nat.le_refl _) _
    have B6 := B0.trans (q.mono B0.size)
    exact ⟨q0, (B6.cell (p := ⟨fb, 1, none⟩) hl).trans k1, World.block_lt_of_cell? _ _ q0, Nat.lt_of_lt_of_le hl B6.size, B6⟩
  go_enter Try.func14, Try.ntmps14
  go_wp2
  go_loopw [5, 6] (fun v x wr => (v = .slice none 0 0 ∧ x = .int .i64 1 ∧ wr = w.alloc (.cells #[.slice (some ⟨fb, 0, none⟩) 6 6, .slice (some ⟨a1, 0, none⟩) n1 c1, .slice (some ⟨a2, 0, none⟩) n2 c2] 29)) ∨ (∃ va vc, v = .slice va 1 vc ∧ x = .int .i64 0 ∧ Hid (Below w.heap.size w wr))) (fun _ x _ => (intOf x).toNat)
  case atStart => exact .inl ⟨rfl, rfl, rfl⟩
  case round =>
    rcases hrel with ⟨rfl, rfl, hwr⟩ | ⟨va, vc, rfl, rfl, HB⟩
    · have z := (Cell3.new w (.slice (some ⟨fb, 0, none⟩) 6 6) (.slice (some ⟨a1, 0, none⟩) n1 c1) (.slice (some ⟨a2, 0, none⟩) n2 c2) 29)
      rw [← hwr] at z
      obtain ⟨z0, z1, z2, zf⟩ := z
      have hz := World.block_lt_of_cell? _ _ z0
      have HW : Hid (wr = w.alloc (.cells #[.slice (some ⟨fb, 0, none⟩) 6 6, .slice (some ⟨a1, 0, none⟩) n1 c1, .slice (some ⟨a2, 0, none⟩) n2 c2] 29)) := hwr
      clear hwr
      go_wp2_with (at_builtin; refine list_int (y := 1) (B := wr.heap.size) rfl (.tmp 35) (.tmp 37) rfl (Gw.nil _ _ _ _ _) (Nat.le_refl _) rfl rfl rfl (by decide) ?_; intro v6 w6 h6 hg6; obtain ⟨va, vc, rfl⟩ := h6.form1; obtain ⟨y0, y1, y2, y3, y4⟩ := HC.out wr w6 HW.out (((Below.refl _ _).alloc (Nat.le_refl _) _).grown hg6 (le_alloc _ _) (fun k hk => by cases hk)); have G6 : Hid (Below w.heap.size w w6) := y4; clear h6 hg6 y4)
      go_roundw
      case rel => exact .inr ⟨_, _, rfl, rfl, G6.out⟩
      case measure => simp [intOf]
    · go_wp2_with (go_at_call 27; refine (HR.out _ _ _).mono ?_; rintro e w6 ⟨rfl, rfl⟩)
      go_ret
      exact ⟨_, _, rfl, HB.out⟩
end
section
open Go.RowKit
set_option linter.unusedVariables false

theorem forked_names : nmsK 2 forkedD.places = [[112, 97, 121], [115, 104, 105, 112]] := by decide
theorem small_names : nmsK 6 smallD.places = [] := by decide
theorem forked_s : (ofS forkedD).fk = [0, 0, 1, 1, 1, 0] ∧ (ofS forkedD).dp = [0, 0, 1, 1, 1, 0] ∧ (ofS forkedD).jn = [0, 4, 0, 0, 0, 0] := by decide
theorem none_e : ofE ⟨[112], []⟩ = 8 := by decide
set_option maxRecDepth 100000 in
set_option maxHeartbeats 400000 in
theorem Jobs_forked (P : Nat → Prop) (a : Option Addr) (c : Nat) (w : World) (h : DfV w P forkedD a c) : Calls Try.prog 15 #[.agg #[.string ⟨#[102]⟩, .slice a 6 c]] w fun e w' => ∃ a' c', e = .returned (.slice a' 2 c') ∧ Below w.heap.size w w' := by
  have HN : Hid (∀ o, Calls Try.prog 28 #[.slice a 6 c, .int .i64 2] (w.alloc o) fun e w' => ∃ a' c', e = .returned (.slice a' 2 c') ∧ Below (w.alloc o).heap.size (w.alloc o) w') := fun o =>
    names_any P 2 forkedD.places a 6 c 2 _ (h.places.kept (kept_below ((Below.refl _ _).alloc (Nat.le_refl _) o))) rfl (by decide) (by decide)
      (fun v w1 q => by
        rw [forked_names] at q
        obtain ⟨g, c2, rfl, q1, q2, q3⟩ := q.names2
        exact sort_two g c2 q1 w1 q3)
      (fun v w1 q => by
        rw [forked_names] at q
        obtain ⟨g, c2, rfl, q1, q2, q3⟩ := q.names2
        refine (compact_two g c2 q1 q2 w1 q3).mono ?_
        rintro e w' ⟨rfl, q5⟩
        exact ⟨⟨_, _, rfl⟩, q5⟩)
  clear h
  go_enter Try.func15, Try.ntmps15
  go_wp2_with (go_at_call 28; refine (HN.out _).mono ?_; rintro e w2 ⟨a2, c2, rfl, HB⟩; have HB2 : Hid (Below w.heap.size w w2) := ((Below.refl _ _).alloc (Nat.le_refl _) _).trans (HB.mono (le_alloc _ _)); clear HB)
  go_ret
  exact ⟨_, _, rfl, HB2.out⟩
set_option maxRecDepth 100000 in
set_option maxHeartbeats 400000 in
theorem Messages_small (P : Nat → Prop) (a : Option Addr) (c : Nat) (w : World) (h : DfV w P smallD a c) : Calls Try.prog 16 #[.agg #[.string ⟨#[112]⟩, .slice a 3 c]] w fun e w' => ∃ a' c', e = .returned (.slice a' 0 c') ∧ Below w.heap.size w w' := by
  have HN : Hid (∀ o, Calls Try.prog 28 #[.slice a 3 c, .int .i64 6] (w.alloc o) fun e w' => ∃ a' c', e = .returned (.slice a' 0 c') ∧ Below (w.alloc o).heap.size (w.alloc o) w') := fun o =>
    names_any P 6 smallD.places a 3 c 0 _ (h.places.kept (kept_below ((Below.refl _ _).alloc (Nat.le_refl _) o))) rfl (by decide) (by decide)
      (fun v w1 q => by
        rw [small_names] at q
        obtain ⟨g, c2, rfl⟩ := q.form
        exact sort_none g c2 w1)
      (fun v w1 q => by
        rw [small_names] at q
        obtain ⟨g, c2, rfl⟩ := q.form
        refine (compact_none g c2 w1).mono ?_
        rintro e w' ⟨rfl, rfl⟩
        exact ⟨⟨_, _, rfl⟩, Below.refl _ _⟩)
  clear h
  go_enter Try.func16, Try.ntmps16
  go_wp2_with (go_at_call 28; refine (HN.out _).mono ?_; rintro e w2 ⟨a2, c2, rfl, HB⟩; have HB2 : Hid (Below w.heap.size w w2) := ((Below.refl _ _).alloc (Nat.le_refl _) _).trans (HB.mono (le_alloc _ _)); clear HB)
  go_ret
  exact ⟨_, _, rfl, HB2.out⟩
/-- Of at the two examples. -/
theorem Of_forked (P : Nat → Prop) (a : Option Addr) (c : Nat) (w : World) (h : DfV w P forkedD a c) : Calls Try.prog 8 #[.agg #[.string ⟨#[102]⟩, .slice a 6 c]] w fun e w' => ∃ fb db jb, e = .returned (.tuple #[.agg #[.slice (some ⟨fb, 0, none⟩) 6 6, .slice (some ⟨db, 0, none⟩) 6 6, .slice (some ⟨jb, 0, none⟩) 6 6], .int .i64 0]) ∧ RowN w' fb [0, 0, 1, 1, 1, 0] ∧ RowN w' db [0, 0, 1, 1, 1, 0] ∧ RowN w' jb [0, 4, 0, 0, 0, 0] ∧ Below w.heap.size w w' := by
  refine (Of_any P forkedD a c w h).mono ?_
  rintro e w' ⟨h1, ⟨h2, _⟩ | ⟨_, fb, db, jb, rfl, _, _, _, r1, r2, r3, _⟩⟩
  · exact absurd forked_ok h2
  · obtain ⟨e1, e2, e3⟩ := forked_s
    rw [e1] at r1
    rw [e2] at r2
    rw [e3] at r3
    exact ⟨fb, db, jb, rfl, r1, r2, r3, h1⟩
theorem Of_none (w : World) : Calls Try.prog 8 #[.agg #[.string ⟨#[112]⟩, .slice none 0 0]] w fun e w' => e = .returned (.tuple #[.agg #[.slice none 0 0, .slice none 0 0, .slice none 0 0], .int .i64 8]) ∧ Below w.heap.size w w' := by
  have hD : DfV w (fun _ => True) ⟨[112], []⟩ none 0 := ⟨by decide, PlsV.nil _ _⟩
  refine (Of_any _ ⟨[112], []⟩ none 0 w hD).mono ?_
  rintro e w' ⟨h1, ⟨h2, rfl⟩ | ⟨h2, _⟩⟩
  · rw [none_e]; exact ⟨rfl, h1⟩
  · rw [none_e] at h2; cases h2
end
section
open Go.RowKit
set_option linter.unusedVariables false
/-- What the law's works holds at hand. -/
structure Wrk (w0 w : World) (sb fb db jb : Nat) : Prop where
  b : Below w0.heap.size w0 w
  s : Cell3 w sb (.slice (some ⟨fb, 0, none⟩) 6 6) (.slice (some ⟨db, 0, none⟩) 6 6) (.slice (some ⟨jb, 0, none⟩) 6 6)
  f : RowN w fb [0, 0, 1, 1, 1, 0]
  d : RowN w db [0, 0, 1, 1, 1, 0]
  j : RowN w jb [0, 4, 0, 0, 0, 0]
theorem RowN.lt {w : World} {b : Nat} {l : List Nat} (h : RowN w b l) (hl : 0 < l.length) : b < w.heap.size := World.block_lt_of_cell? _ _ (h.c 0 hl)
theorem Wrk.below {w0 w w' : World} {sb fb db jb : Nat} (h : Wrk w0 w sb fb db jb) (q : Below w.heap.size w w') : Wrk w0 w' sb fb db jb :=
  ⟨h.b.trans (q.mono h.b.size), h.s.kept (q.block _ (World.block_lt_of_cell? _ _ h.s.c0)), h.f.kept (q.block _ (h.f.lt (by decide))), h.d.kept (q.block _ (h.d.lt (by decide))), h.j.kept (q.block _ (h.j.lt (by decide)))⟩
theorem Wrk.cells {w0 w : World} {sb fb db jb : Nat} (h : Wrk w0 w sb fb db jb) : w.cell? ⟨sb, 0, none⟩ = some (.slice (some ⟨fb, 0, none⟩) 6 6) ∧ w.cell? ⟨sb, 1, none⟩ = some (.slice (some ⟨db, 0, none⟩) 6 6) ∧ w.cell? ⟨sb, 2, none⟩ = some (.slice (some ⟨jb, 0, none⟩) 6 6) ∧ w.cell? ⟨fb, 3, none⟩ = some (.int .i64 1) ∧ w.cell? ⟨fb, 5, none⟩ = some (.int .i64 0) ∧ w.cell? ⟨db, 4, none⟩ = some (.int .i64 1) ∧ w.cell? ⟨jb, 1, none⟩ = some (.int .i64 4) :=
  ⟨h.s.c0, h.s.c1, h.s.c2, h.f.c 3 (by decide), h.f.c 5 (by decide), h.d.c 4 (by decide), h.j.c 1 (by decide)⟩
theorem wrk_new {w0 w : World} {fb db jb : Nat} (b : Below w0.heap.size w0 w) (f : RowN w fb [0, 0, 1, 1, 1, 0]) (d : RowN w db [0, 0, 1, 1, 1, 0]) (j : RowN w jb [0, 4, 0, 0, 0, 0]) : Wrk w0 (w.alloc (.cells #[.slice (some ⟨fb, 0, none⟩) 6 6, .slice (some ⟨db, 0, none⟩) 6 6, .slice (some ⟨jb, 0, none⟩) 6 6] 29)) w.heap.size fb db jb :=
  ⟨b.alloc b.size _, Cell3.new w _ _ _ 29, f.kept (heap_alloc_old _ _ (f.lt (by decide))), d.kept (heap_alloc_old _ _ (d.lt (by decide))), j.kept (heap_alloc_old _ _ (j.lt (by decide)))⟩
set_option maxRecDepth 100000 in
set_option maxHeartbeats 1600000 in
theorem works_any (w : World) : Calls Try.prog 7 #[] w fun e w' => e = .returned (.bool true) ∧ Below w.heap.size w w' := by
  have H13 : Hid (∀ w, Calls Try.prog 13 #[] w fun e w' => ∃ a c, e = .returned (.agg #[.string ⟨#[102]⟩, .slice a 6 c]) ∧ DfV w' (fun g => w.heap.size ≤ g) forkedD a c ∧ Below w.heap.size w w') := fun w => Forked_any w
  have H17 : Hid (∀ w, Calls Try.prog 17 #[] w fun e w' => ∃ a c, e = .returned (.agg #[.string ⟨#[112]⟩, .slice a 3 c]) ∧ DfV w' (fun g => w.heap.size ≤ g) smallD a c ∧ Below w.heap.size w w') := fun w => Small_any w
  have HOf : Hid (∀ P a c w, DfV w P forkedD a c → Calls Try.prog 8 #[.agg #[.string ⟨#[102]⟩, .slice a 6 c]] w fun e w' => ∃ fb db jb, e = .returned (.tuple #[.agg #[.slice (some ⟨fb, 0, none⟩) 6 6, .slice (some ⟨db, 0, none⟩) 6 6, .slice (some ⟨jb, 0, none⟩) 6 6], .int .i64 0]) ∧ RowN w' fb [0, 0, 1, 1, 1, 0] ∧ RowN w' db [0, 0, 1, 1, 1, 0] ∧ RowN w' jb [0, 4, 0, 0, 0, 0] ∧ Below w.heap.size w w') := fun P a c w h => Of_forked P a c w h
  have HO0 : Hid (∀ w, Calls Try.prog 8 #[.agg #[.string ⟨#[112]⟩, .slice none 0 0]] w fun e w' => e = .returned (.tuple #[.agg #[.slice none 0 0, .slice none 0 0, .slice none 0 0], .int .i64 8]) ∧ Below w.heap.size w w') := fun w => Of_none w
  have H14 : Hid (∀ (fb a1 n1 c1 a2 n2 c2 : Nat) (w : World), RowN w fb [0, 0, 1, 1, 1, 0] → Calls Try.prog 14 #[.agg #[.slice (some ⟨fb, 0, none⟩) 6 6, .slice (some ⟨a1, 0, none⟩) n1 c1, .slice (some ⟨a2, 0, none⟩) n2 c2], .int .i64 2] w fun e w' => ∃ a c, e = .returned (.slice a 1 c) ∧ Below w.heap.size w w') := fun fb a1 n1 c1 a2 n2 c2 w h => Forks_two fb a1 n1 c1 a2 n2 c2 w h
  have H15 : Hid (∀ (P : Nat → Prop) (a : Option Addr) (c : Nat) (w : World), DfV w P forkedD a c → Calls Try.prog 15 #[.agg #[.string ⟨#[102]⟩, .slice a 6 c]] w fun e w' => ∃ a' c', e = .returned (.slice a' 2 c') ∧ Below w.heap.size w w') := fun P a c w h => Jobs_forked P a c w h
  have H16 : Hid (∀ (P : Nat → Prop) (a : Option Addr) (c : Nat) (w : World), DfV w P smallD a c → Calls Try.prog 16 #[.agg #[.string ⟨#[112]⟩, .slice a 3 c]] w fun e w' => ∃ a' c', e = .returned (.slice a' 0 c') ∧ Below w.heap.size w w') := fun P a c w h => Messages_small P a c w h
  go_enter Try.func7, Try.ntmps7
  go_wp2_with (first
    | (go_at_call 14; refine (H14.out fb db 6 6 jb 6 6 _ (HB3.out.f.kept (heap_alloc_old _ _ (HB3.out.f.lt (by decide))))).mono ?_; rintro e w5 ⟨a5, c5, rfl, HB⟩; have HB5 : Hid (Below w.heap.size w w5) := (HB3.out.b.alloc HB3.out.b.size _).trans (HB.mono (Nat.le_trans HB3.out.b.size (le_alloc _ _))); clear HB HB3 z0 z1 z2 z3 z4 z5 z6 l0 l1 l2 l3)
    | (go_at_call 13; have := HB5; refine (H13.out _).mono ?_; rintro e w6 ⟨a6, c6, rfl, q1, q2⟩; have HB6 : Hid (DfV w6 (fun g => w5.heap.size ≤ g) forkedD a6 c6 ∧ Below w.heap.size w w6) := ⟨q1, HB5.out.trans (q2.mono HB5.out.size)⟩; clear this q1 q2 HB5)
    | (go_at_call 15; refine (H15.out _ _ _ _ HB6.out.1).mono ?_; rintro e w7 ⟨a7, c7, rfl, HB⟩; have HB7 : Hid (Below w.heap.size w w7) := HB6.out.2.trans (HB.mono HB6.out.2.size); clear HB HB6)
    | (go_at_call 17; refine (H17.out _).mono ?_; rintro e w8 ⟨a8, c8, rfl, q1, q2⟩; have HB8 : Hid (DfV w8 (fun g => w7.heap.size ≤ g) smallD a8 c8 ∧ Below w.heap.size w w8) := ⟨q1, HB7.out.trans (q2.mono HB7.out.size)⟩; clear q1 q2 HB7)
    | (go_at_call 16; refine (H16.out _ _ _ _ HB8.out.1).mono ?_; rintro e w9 ⟨a9, c9, rfl, HB⟩; have HB9 : Hid (Below w.heap.size w w9) := HB8.out.2.trans (HB.mono HB8.out.2.size); clear HB HB8)
    | (go_at_call 8; have := HB1; refine (HOf.out _ _ _ _ HB1.out.1).mono ?_; rintro e w2 ⟨fb, db, jb, rfl, q1, q2, q3, q4⟩; have HB2 : Hid (Wrk w (w2.alloc (.cells #[.slice (some ⟨fb, 0, none⟩) 6 6, .slice (some ⟨db, 0, none⟩) 6 6, .slice (some ⟨jb, 0, none⟩) 6 6] 29)) w2.heap.size fb db jb) := wrk_new (HB1.out.2.trans (q4.mono HB1.out.2.size)) q1 q2 q3; clear this q1 q2 q3 q4 HB1)
    | (go_at_call 8; refine (HO0.out _).mono ?_; rintro e w3 ⟨rfl, HB⟩; have HB3 : Hid (Wrk w w3 w2.heap.size fb db jb) := HB2.out.below HB; obtain ⟨z0, z1, z2, z3, z4, z5, z6⟩ := HB3.out.cells; have l0 := World.block_lt_of_cell? _ _ z0; have l1 := World.block_lt_of_cell? _ _ z3; have l2 := World.block_lt_of_cell? _ _ z5; have l3 := World.block_lt_of_cell? _ _ z6; clear HB)
    | (go_at_call 13; refine (H13.out _).mono ?_; rintro e w1 ⟨a1, c1, rfl, HB⟩; have HB1 : Hid (DfV w1 (fun g => w.heap.size ≤ g) forkedD a1 c1 ∧ Below w.heap.size w w1) := HB; clear HB))
  go_ret
  exact ⟨rfl, HB9.out⟩
end
end Go.Proofs.Ytlaiacjlphjmlaa
