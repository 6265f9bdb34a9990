/-
  Layer 12: what the game's law leans on: a move in a balanced definition.
-/
import Derived.Test.YtlaiacjlphjmlaaGmE
import Derived.Test.YtlaiacjlphjmlaaGmI
namespace Go.Proofs.Ytlaiacjlphjmlaa
open Go.RowKit Go.ChangeShapes Go.WideShapes
set_option linter.unusedVariables false

theorem gpl_of {d : Df} (hz : checkD d = 0) (h0 : ofE d = 0) : Gpl d.places d.places.length (ofS d) := by
  refine ⟨of_bal hz h0, fun p hp x hx => (flows_in hz p hp x hx).2, fun p hp h8 => ?_⟩
  obtain ⟨h1, _⟩ := outs_ok hz hp
  unfold leastK at h1
  unfold outN
  split at h1
  · omega
  · first | omega | (rw [if_neg h8] at h1; omega)
theorem out_most {d : Df} (hz : checkD d = 0) {p : Nat} (hp : p < d.places.length) : outN d.places p ≤ 4096 := by
  obtain ⟨_, h1⟩ := outs_ok hz hp
  unfold mostK at h1
  unfold outN
  repeat' (split at h1)
  all_goals omega
theorem go_of {d : Df} (hz : checkD d = 0) (h0 : ofE d = 0) : (goD d).1 = 0 := by
  have := ofE_go hz
  rw [h0] at this
  split at this
  · cases this
  · exact this.symm
theorem Move_ok (d : Df) (P : Nat → Prop) (a : Option Addr) (c : Nat) (w : World) (ta : Option Addr) (tn tc : Nat) (ca : Option Addr) (cn cc : Nat) (g : Gm) (k b : Nat) (fo : Nat → Nat) (ou : Nat → List Nat) (hz : checkD d = 0) (h0 : ofE d = 0) (hd : DfV w P d a c) (hg : GmV w ta tn tc (.slice ca cn cc) g) (hi : Ginv d.places d.places.length (ofS d) g fo ou) (hk : k < g.toks.length) (hb : b < 16) (ht : g.toks.length ≤ 1000) (hc : g.came.length ≤ 1000) :
    Calls Try.prog 11 #[.agg #[.string (ba d.id), .slice a d.places.length c], .agg #[.slice ta tn tc, .slice ca cn cc], .int .i64 (k : Nat), .int .i64 (b : Nat)] w (MoveP w (moveM d.places (ofS d) g k b)) := by
  have hgp := gpl_of hz h0
  obtain ⟨p1, p2⟩ := hi.plen hgp.bal _ (getD_memT hk)
  refine Move_any d P a c (ofS d) w ta tn tc ca cn cc g k b hd (def_facts hz).len hg hk hb ht hc p1 (by rw [p2]; exact getD_mem_le hgp.bal.ok.dpl) (fun h8 => hgp.out _ p1 h8) (out_most hz p1) (fun x hx => flows_in hz _ p1 x hx) (fun h5 => ?_)
  obtain ⟨q, hq, hl, hf, hfz, hlast, hcp, hlt⟩ := hi.atJoin hgp hk h5
  have hfl : (ofS d).fk.getD (g.toks.getD k zeroTk).pos 0 < d.places.length := getD_mem_or hgp.bal.ok.fkl (by omega)
  refine ⟨by rw [hl]; simp, by rw [hlast]; exact hq, ?_, hfl, fun wx hbx => Forks_at _ d a c wx (hd.kept (kept_below hbx)) hz (go_of hz h0) _ p1 (hgp.bal.come _ p1) hfz⟩
  rw [hlast]
  have := out_most hz (p := fo q) (by rw [hf]; exact hfl)
  omega
end Go.Proofs.Ytlaiacjlphjmlaa
