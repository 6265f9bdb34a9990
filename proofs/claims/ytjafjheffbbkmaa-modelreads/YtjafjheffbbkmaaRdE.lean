/-
  The program's node, tree: contracts.
-/
import Derived.Test.YtjafjheffbbkmaaRdD
namespace Go.Proofs.Ytjafjheffbbkmaa
open Go.RowKit
set_option linter.unusedVariables false

set_option maxRecDepth 100000 in
set_option maxHeartbeats 400000 in
theorem node_kids (d deep : Nat) (hd : d + 1 + deep = 17) (ih : Nodes d) (rb : Nat) (s : Sst) (w : World) (hR : Rst w rb s) (hx3 : 3 ≤ hdS s) (hx14 : hdS s ≤ 14) : Calls Try.prog 69 #[.pointer (some ⟨rb, 0, none⟩), .int .i64 deep] w (NodeP (treeE (d + 1)) rb s w) := by
  have hlt := hR.lt
  have h16 : deep ≤ 16 := by omega
  have HT : Hid (∀ o, Calls Try.prog 91 #[.pointer (some ⟨rb, 0, none⟩), .func (.func 92) #[] #[]] (w.alloc o) fun e w' => e = .returned (.int .u8 (hdS s : Nat)) ∧ Rst w' rb (tlS s) ∧ Fr rb (w.alloc o) w') := fun o => takeByte_det rb s _ (hR.alloc o)
  have HK : Hid (∀ w, Calls Try.prog 95 #[.int .i64 (hdS s : Nat)] w fun e w' => e = .returned (.int .i64 (kidsK (hdS s) : Nat)) ∧ w' = w) := fun w => kidsOf_any (hdS s) w
  have HI : Hid (∀ s w, Rst w rb s → Calls Try.prog 69 #[.pointer (some ⟨rb, 0, none⟩), .int .i64 ((deep : Int) + 1)] w (NodeP (treeE d) rb s w)) := fun s w q => ih (deep + 1) (by omega) rb s w q
  have HA : Hid (∀ ts s2, After (manyE (treeE d) (kidsK (hdS s))) (tlS s) ts s2 → After (treeE (d + 1)) s ⟨hdS s, 0, [], ts⟩ s2) := fun ts s2 q => (after_byte hR.nil).bind (by rw [if_neg (by omega), if_neg (by omega), if_neg (by omega)]; exact q.bind (After.pure _ _))
  have hk2 : kidsK (hdS s) ≤ 2 := by unfold kidsK; repeat' split
                                     all_goals omega
  have HKi : Hid (InR (hdS s)) := ⟨by omega, by omega⟩
  have hn1 : w.heap.size ≠ rb := by omega
  clear hR ih
  generalize tlS s = s1 at *
  generalize hN : kidsK (hdS s) = N at *
  clear hN
  generalize hdS s = m at *
  have hm1 : ¬ m < 1 := by omega
  have hm2 : ((m : Int) == 1) = false := by rw [beq_eq_false_iff_ne]; omega
  have hm3 : ((m : Int) == 2) = false := by rw [beq_eq_false_iff_ne]; omega
  go_enter Try.func69, Try.ntmps69
  go_wp2_with (first
    | (go_at_call 95; refine (HK.out _).mono ?_; rintro e w9 ⟨rfl, h9⟩; have h10 := h9.symm; clear h9; subst h10)
    | (go_at_call 91; refine (HT.out _).mono ?_; rintro e w2 ⟨rfl, q1, q2⟩; have H2 : Hid (Rst w2 rb s1 ∧ Fr rb w w2 ∧ Cell4 w2 w.heap.size (.int .i64 0) (.int .i64 0) (.string ⟨#[]⟩) (.slice none 0 0)) := ⟨q1, ((Fr.refl _ _).alloc _).trans q2, (Cell4.new w _ _ _ _ 31).fr q2 hn1⟩; have hl2 : w.heap.size < w2.heap.size := H2.out.2.2.lt; clear q1 q2))
  have HB0 : Hid (Nd w (w2.alloc (.cells #[.int .i64 m, .int .i64 0, .string ⟨#[]⟩, .slice none 0 0] 31)) rb w2.heap.size s1 (.int .i64 m) (.int .i64 0) (.string ⟨#[]⟩) (.slice none 0 0) []) := ⟨H2.out.2.1.alloc _, H2.out.1.alloc _, hlt, H2.out.2.2.alloc _, hl2, Cell4.new _ _ _ _ _ 31, Gw.nil _ _ _ _ _⟩
  generalize w2.heap.size = xb at *
  clear H2
  go_loopw [40] (fun v wr => ∃ (i : Nat), i ≤ N ∧ v = .int .i64 i ∧ Hid (∃ kv ts s', Nd w wr rb xb s' (.int .i64 m) (.int .i64 0) (.string ⟨#[]⟩) kv ts ∧ ts.length = i ∧ After (manyE (treeE d) i) s1 ts s')) (fun v _ => N - (intOf v).toNat)
  case atStart => exact ⟨0, Nat.zero_le _, rfl, _, [], s1, HB0.out, rfl, After.pure _ _⟩
  case round =>
    obtain ⟨i, hi2, rfl, HR0⟩ := hrel
    obtain ⟨kv, ts, s', hR, htl, hAf⟩ := HR0.out
    have HR : Hid (Nd w wr rb xb s' (.int .i64 m) (.int .i64 0) (.string ⟨#[]⟩) kv ts) := hR
    have HTl : Hid (ts.length = i) := htl
    have HAf : Hid (After (manyE (treeE d) i) s1 ts s') := hAf
    clear hR htl hAf HR0 HB0
    obtain ⟨ka, kc, rfl⟩ := HR.out.kin.form
    obtain ⟨z0, z1, z2, z3, z4⟩ := HR.out.r
    obtain ⟨x0, x1, x2, x3, x4⟩ := HR.out.x
    have hlz := World.block_lt_of_cell? _ _ z0
    have hlx := World.block_lt_of_cell? _ _ x0
    rw [HTl.out] at x3
    by_cases hlt2 : i < N
    · have HLn : Hid (ts.length ≤ 1048576) := by show _ ≤ _; rw [HTl.out]; omega
      have HC : Hid (∀ w1, Rst w1 rb s' → Calls Try.prog 69 #[.pointer (some ⟨rb, 0, none⟩), .int .i64 ((deep : Int) + 1)] w1 (NodeP (treeE d) rb s' w1)) := fun w1 q => HI.out s' w1 q
      have hir : (i : Int) < N := by omega
      have hwr : IntKind.i64.wrap ((deep : Int) + 1) = (deep : Int) + 1 := by rw [IntKind.wrap_i64]; omega
      have hxb : w.heap.size < xb := HR.out.lo
      rw [HTl.out] at HR
      go_wp2_with fail
      go_region_law (first
        | (have := HB3; refine step_tree rfl (.tmp 43) (.tmp 48) rfl HB3.out.1.kin HB3.out.2.1 HB3.out.1.size rfl rfl rfl HLn.out ?_; intro v5 w5 h5 hg5; obtain ⟨va, vc, rfl⟩ := h5.form1; have HB5 : Hid (Nd w (w5.setCell ⟨xb, 3, none⟩ (.slice va (ts.length + 1) vc)) rb xb s3 (.int .i64 m) (.int .i64 0) (.string ⟨#[]⟩) (.slice va (ts.length + 1) vc) (ts ++ [y]) ∧ After (treeE d) s' y s3) := ⟨(HB3.out.1.next h5 hg5).2, HB3.out.2.2⟩; obtain ⟨t0, t1, t2, t3, t4⟩ := (HB3.out.1.next h5 hg5).1; have hls := World.block_lt_of_cell? _ _ t0; clear h5 hg5 HB3)
        | (go_simp; go_at_call 69; refine (HC.out _ HR.out.drew.rst).mono ?_; rintro e w3 ⟨y, s3, rk, rn, rs, ra, rl, rc, rfl, hrt, hA3, hr3, hf3⟩; have HB3 : Hid (Nd w w3 rb xb s3 (.int .i64 m) (.int .i64 0) (.string ⟨#[]⟩) (.slice ka i kc) ts ∧ Tre w3 (fun g => xb + 1 ≤ g ∧ (Value.slice ka i kc).ownBlock ≠ some g) (.agg #[.int .i64 rk, .int .i64 rn, .string rs, .slice ra rl rc]) y ∧ After (treeE d) s' y s3) := ⟨HR.out.drew.then hr3 hf3, hrt.sub fun g hg => ⟨Nat.le_trans HR.out.drew.size hg, HR.out.drew.kin.off hg⟩, hA3⟩; obtain ⟨y0, y1, y2, y3, y4⟩ := HB3.out.1.x; have hly := World.block_lt_of_cell? _ _ y0; clear hrt hA3 hr3 hf3; go_wp2_with fail))
      all_goals (
        go_wp2
        go_roundw
        case rel => exact ⟨i + 1, by omega, by go_num, _, _, _, HB5.out.1, by rw [List.length_append, HTl.out]; rfl, HAf.out.bind (HB5.out.2.bind (After.pure _ _))⟩
        case measure => simp [intOf]; omega)
    · have he : i = N := by omega
      subst he
      have HF : Hid (Tre wr (fun g => xb + 1 ≤ g) (.agg #[.int .i64 m, .int .i64 0, .string (ba []), .slice ka ts.length kc]) ⟨m, 0, [], ts⟩) := HR.out.kin.tree (by rw [HTl.out]; omega) HKi.out inR_zero (by decide)
      have HA2 := HA.out _ _ HAf.out
      rw [HTl.out] at HR HF
      have HA3 : Hid (After (treeE (d + 1)) s ⟨m, 0, [], ts⟩ s') := HA2
      clear HA2
      have hxb : w.heap.size < xb := HR.out.lo
      go_wp2
      refine bodyPost_ret (v := .agg #[.int .i64 m, .int .i64 0, .string ⟨#[]⟩, .slice ka i kc]) (by simp [results, Try.results69, go_sem, z0, z1, z2, z3]) rfl ⟨_, _, _, _, _, _, _, _, rfl, ?_, HA3.out, four_rst (o := 0) HR.out.rst hlt, four_fr (o := 0) HR.out.fr (Nat.le_refl _)⟩
      exact HF.out.kept fun g hg _ => ⟨four_other (M := w.heap.size) (o := 0) (by omega), by omega⟩
theorem nodes_any : ∀ d, Nodes d
  | 0 => node_zero
  | d + 1 => fun deep hd rb s w hR => by
    by_cases h1 : hdS s < 1 ∨ 14 < hdS s
    · exact node_out d deep hd rb s w hR h1
    · by_cases h2 : hdS s = 1
      · exact node_num d deep hd rb s w hR h2
      · by_cases h3 : hdS s = 2
        · exact node_var d deep hd rb s w hR h3
        · exact node_kids d deep hd (nodes_any d) rb s w hR (by omega) (by omega)
end Go.Proofs.Ytjafjheffbbkmaa
