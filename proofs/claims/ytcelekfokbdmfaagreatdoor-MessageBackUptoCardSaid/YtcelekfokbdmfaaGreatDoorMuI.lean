import Derived.Test.YtcelekfokbdmfaaGreatDoorMgJ1
import Derived.Test.YtcelekfokbdmfaaGreatDoorMgE1
set_option linter.unusedVariables false
set_option linter.unusedSimpArgs false
set_option maxRecDepth 100000
namespace Go.Proofs.YtcelekfokbdmfaaGreatDoor
open Go.RowKit Go.Shelf
namespace Ms
open Oc Tg _root_.Go.Proofs.YtcelekfokbdmfaaGreatDoor.Fd _root_.Go.Proofs.YtcelekfokbdmfaaGreatDoor.Ck
def szT (t : List Fl) : Nat := (t.map fun p => p.1.length + p.2.length + 4).sum
theorem szT_cons (p : Fl) (t : List Fl) : szT (p :: t) = p.1.length + p.2.length + 4 + szT t := by
  unfold szT
  rw [List.map_cons, List.sum_cons]
theorem szT_app (a b : List Fl) : szT (a ++ b) = szT a + szT b := by
  unfold szT
  rw [List.map_append, List.sum_append]
theorem szT_take (t : List Fl) (k : Nat) (h : k < t.length) : szT (t.take (k + 1)) = szT (t.take k) + ((nth t k).1.length + (nth t k).2.length + 4) := by
  rw [take_nth t k h, szT_app, szT_cons]
  rfl
theorem szT_bd : ∀ t : List Fl, szT t ≤ 2 * sumF t
  | [] => Nat.zero_le _
  | p :: t => by
    have ih := szT_bd t
    have e : sumF (p :: t) = szF p + sumF t := by
      unfold sumF
      rw [List.map_cons, List.sum_cons]
    rw [szT_cons, e]
    unfold szF
    omega
theorem szT_pre (t : List Fl) (k : Nat) : szT (t.take k) ≤ szT t := by
  conv => rhs; rw [← List.take_append_drop k t, szT_app]
  omega
theorem trail_sz : ∀ t : List Fl, (trailG t).length ≤ szT t
  | [] => Nat.zero_le _
  | p :: t => by
    have ih := trail_sz t
    have e : trailG (p :: t) = lineP p ++ [13, 10] ++ trailG t := by
      unfold trailG
      rw [List.flatMap_cons]
    have hl : (lineP p).length ≤ p.1.length + p.2.length + 2 := by
      unfold lineP
      split <;> simp <;> omega
    rw [szT_cons, e]
    simp only [List.length_append, List.length_cons, List.length_nil]
    omega
theorem prn_len (r : Rs) (m : Mn) (h : (prnR r m).2 = 0) (hbl : r.bd.length ≤ 1048576) (hsl : m.sz.length ≤ 1048576) (hts : sumF m.tr ≤ 1048576) : (prnR r m).1.length ≤ 42000000 ∧ 17 ≤ (prnR r m).1.length := by
  obtain ⟨h1, hl, e⟩ := prn_yes r m h m.me
  rw [with_me] at e
  have H := hd_ok h1
  have he := encR_len r.bd m.sz m.tr hbl hsl hts
  have hb : (bodR r m).length ≤ 40000000 := by
    unfold bodR
    split
    · exact he
    · omega
  have h17 : 17 ≤ (headR r m).1.length := by
    have e0 := hdP_st r (textOf (r.fs ++ behF r m)) []
    rw [List.append_nil] at e0
    have hs := stL_len r H.st.1 H.st.2
    rw [H.is, e0]
    simp only [List.length_append, List.length_cons, List.length_nil]
    omega
  rw [e]
  split
  · exact ⟨by dsimp only; omega, h17⟩
  · dsimp only
    rw [List.length_append]
    omega
theorem Parse_back (r : Rs) (m : Mn) (h : (prnR r m).2 = 0) (hbl : r.bd.length ≤ 1048576) (hsl : m.sz.length ≤ 1048576) (hts : sumF m.tr ≤ 1048576) (ht : m.tr.length ≤ 100) (hz : 2 + szT m.tr ≤ 65536) (behind : ByteArray) (hbh : behind.size ≤ 1048576) (w : World) (hw : Env w) :
    Calls Tryz.prog 21 #[.string (str m.me), .string (str (prnR r m).1 ++ behind), .int .i64 (r.bd.length : Int), .bool false] w fun e w' => ∃ (fa : Option Addr) (fc : Nat) (ta : Option Addr) (tc : Nat) (RZ BZ : ByteArray) (kd ln : Int) (per : Bool) (tr : List Fl), e = .returned (.tuple #[.agg #[.int .i64 r.st, .string RZ, .slice fa (r.fs ++ behF r m).length fc, .string BZ, .int .i64 1, .slice ta tr.length tc, .int .i64 kd, .int .i64 ln, .bool per], .int .i64 ((prnR r m).1.length : Int), .int .i64 0]) ∧ OwnF 63 w.heap.size (.slice fa (r.fs ++ behF r m).length fc) (r.fs ++ behF r m) w' ∧ OwnF 63 w.heap.size (.slice ta tr.length tc) tr w' ∧ Below w.heap.size w w' ∧ (bdl m.me r.st = true → BZ = ⟨#[]⟩) ∧ (bdl m.me r.st = false → BZ = str r.bd ∧ tr = m.tr ∧ (kd == 2) = m.ch ∧ per = !m.cl) := by
  have hlen := prn_len r m h hbl hsl hts
  have htr := trail_sz m.tr
  have ed : (str (prnR r m).1 ++ behind).data.toList = (prnR r m).1 ++ behind.data.toList := by
    rw [ByteArray.data_append, Array.toList_append, str_list]
  have hB := rsp_back h (by omega) ht (by omega) behind.data.toList
  have hP := Parse_any (str m.me) (str (prnR r m).1 ++ behind) r.bd.length false (by omega) (by rw [← size_list, ed, List.length_append, size_list]; omega) w hw
  rw [ed, str_list] at hP
  obtain ⟨k1, k2, k3, k4, k5, k6, k7, k8⟩ := hB
  generalize rspW (newH ((prnR r m).1 ++ behind.data.toList) false) m.me r.bd.length = P at *
  refine hP.mono ?_
  rintro e w' ⟨vf, vt, rfl, hf, ht2, hb⟩
  rw [k4] at hf
  obtain ⟨fa, fc, rfl⟩ := ownF_form hf
  obtain ⟨ta, tc, rfl⟩ := ownF_form ht2
  refine ⟨fa, fc, ta, tc, str P.1.s.rs, str P.1.bd, P.1.s.kind, P.1.s.len, P.1.s.per, P.2, ?_, hf, ht2, hb, fun hb => by rw [k7 hb]; rfl, fun hb => ?_⟩
  · unfold parW
    rw [if_neg (by rw [k2]; simp), if_neg (by rw [k1]; simp)]
    unfold repC
    rw [k3, k5, k6]
  · obtain ⟨a, b, c, d⟩ := k8 hb
    exact ⟨by rw [a], b, c, d⟩
end Ms
end Go.Proofs.YtcelekfokbdmfaaGreatDoor
