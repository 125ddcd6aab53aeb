/-
  SpanPieces.
-/
import Derived.Test.YthdfgepnadgkjaaDoorPcKz
import Derived.Test.YthdfgepnadgkjaaDoorPcL
import Derived.Test.YthdfgepnadgkjaaDoorSnY
set_option linter.unusedVariables false
set_option linter.unusedSimpArgs false
namespace Go.Proofs.YthdfgepnadgkjaaDoor
open Go.RowKit Go.Shelf
namespace Sn
open Oc Tg Ac

def nthC (ps : List Pc) (k : Nat) : Pc := ps.getD k noPc
theorem encC_at : ∀ (ps : List Pc) (j : Nat), j < ps.length → ∀ k, k < 5 → (encC ps)[j * 5 + k]? = (encC1 (nthC ps j))[k]?
  | [], j, hj, _, _ => by simp at hj
  | p :: ps, 0, hj, k, hk => by
    unfold encC
    rw [List.flatMap_cons, List.getElem?_append_left (by unfold encC1; simp; omega)]
    simp [nthC]
  | p :: ps, j + 1, hj, k, hk => by
    have ih := encC_at ps j (by simpa using hj) k hk
    unfold encC at *
    rw [List.flatMap_cons, List.getElem?_append_right (by unfold encC1; simp; omega), show (j + 1) * 5 + k - (encC1 p).length = j * 5 + k by unfold encC1; simp; omega, ih]
    simp [nthC]
/-- A slice of pieces, to read. -/
def RdC (v : Value) (t : List Pc) (w : World) : Prop := ∃ a c, v = .slice a t.length c ∧ (t = [] ∨ ∃ g, a = some ⟨g, 0, none⟩ ∧ t.length ≤ c ∧ ∀ j, j < t.length → w.cell? ⟨g, j * 5, none⟩ = some (.string (str (nthC t j).media)) ∧ w.cell? ⟨g, j * 5 + 1, none⟩ = some (.int .i64 (nthC t j).sp.1) ∧ w.cell? ⟨g, j * 5 + 2, none⟩ = some (.int .i64 (nthC t j).sp.2) ∧ w.cell? ⟨g, j * 5 + 3, none⟩ = some (.int .i64 (nthC t j).size) ∧ w.cell? ⟨g, j * 5 + 4, none⟩ = some (.string (str (nthC t j).body)))
theorem OwnC.rd {T B : Nat} {v : Value} {t : List Pc} {w : World} (h : OwnC T B v t w) : RdC v t w := by
  have hall := h
  rcases h.2 with ⟨rfl, h0⟩ | ⟨g, cap, cur, rfl, _, hg, hn, _⟩
  · exact ⟨none, 0, by rw [h0], .inl (List.length_eq_zero_iff.1 h0)⟩
  · refine ⟨_, _, rfl, .inr ⟨g, rfl, by omega, fun j hj => ?_⟩⟩
    have ea : ∀ k, Addr.add ⟨g, 0, none⟩ k = ⟨g, 0 + k, none⟩ := fun k => by unfold Addr.add; split <;> simp_all
    have e := encC_at t j hj
    have c : ∀ k x, k < 5 → (encC1 (nthC t j))[k]? = some x → w.cell? ⟨g, j * 5 + k, none⟩ = some x := fun k x hk hx => by
      have := World.ownsRow.cells hall (g := g) rfl _ _ ((e k hk).trans hx)
      rw [ea, Nat.zero_add] at this
      exact this
    exact ⟨c 0 _ (by decide) rfl, c 1 _ (by decide) rfl, c 2 _ (by decide) rfl, c 3 _ (by decide) rfl, c 4 _ (by decide) rfl⟩
theorem RdC.below {v : Value} {t : List Pc} {w w' : World} (h : RdC v t w) (b : Below w.heap.size w w') : RdC v t w' := by
  obtain ⟨a, c, rfl, h⟩ := h
  refine ⟨a, c, rfl, ?_⟩
  rcases h with h | ⟨g, e, hc, hcell⟩
  · exact .inl h
  · refine .inr ⟨g, e, hc, fun j hj => ?_⟩
    obtain ⟨c0, c1, c2, c3, c4⟩ := hcell j hj
    have hg : g < w.heap.size := World.block_lt_of_cell? w _ c0
    exact ⟨(b.cell (p := ⟨g, j * 5, none⟩) hg).trans c0, (b.cell (p := ⟨g, j * 5 + 1, none⟩) hg).trans c1, (b.cell (p := ⟨g, j * 5 + 2, none⟩) hg).trans c2, (b.cell (p := ⟨g, j * 5 + 3, none⟩) hg).trans c3, (b.cell (p := ⟨g, j * 5 + 4, none⟩) hg).trans c4⟩

set_option maxRecDepth 100000 in
set_option maxHeartbeats 2000000 in
theorem lawPcs_any (v1 v2 : Value) (t : List Pc) (w : World) (h1 : RdC v1 t w) (h2 : RdC v2 t w) (hl : t.length ≤ 4294967296) :
    Calls Tryd.prog 7 #[v1, v2] w fun e w' => e = .returned (.bool true) ∧ Below w.heap.size w w' := by
  have H1 : Hid (RdC v1 t w) := h1
  have H2 : Hid (RdC v2 t w) := h2
  obtain ⟨a1, c1, rfl, _⟩ := h1
  obtain ⟨a2, c2, rfl, _⟩ := h2
  have hne : ((t.length : Int) != (t.length : Int)) = false := by simp
  go_enter Tryd.func7, Tryd.ntmps7
  go_wp2
  go_loopw [5] (fun i wr => ∃ k : Nat, k ≤ t.length ∧ i = .int .i64 k ∧ Hid (Below w.heap.size w wr)) (fun i _ => t.length - (intOf i).toNat)
  case atStart => exact ⟨0, Nat.zero_le _, rfl, Below.refl _ _⟩
  case round =>
    obtain ⟨k, hk, rfl, hb⟩ := hrel
    by_cases hlt : k < t.length
    · obtain ⟨a1', c1', e1', hcs1⟩ := H1.out.below hb.out
      injection e1' with e11 _ e12
      subst e11 e12
      rcases hcs1 with h | ⟨g1, rfl, hlc1, hcell1⟩
      · rw [h] at hlt; simp at hlt
      obtain ⟨a2', c2', e2', hcs2⟩ := H2.out.below hb.out
      injection e2' with e21 _ e22
      subst e21 e22
      rcases hcs2 with h | ⟨g2, rfl, hlc2, hcell2⟩
      · rw [h] at hlt; simp at hlt
      obtain ⟨p0, p1, p2, p3, p4⟩ := hcell1 k hlt
      obtain ⟨q0, q1, q2, q3, q4⟩ := hcell2 k hlt
      clear hcell1 hcell2
      generalize (nthC t k).sp.1 = X at *
      generalize (nthC t k).sp.2 = Y at *
      generalize (nthC t k).size = Z at *
      generalize str (nthC t k).media = M at *
      generalize str (nthC t k).body = N at *
      have nX : (X != X) = false := by simp
      have nY : (Y != Y) = false := by simp
      have nZ : (Z != Z) = false := by simp
      have nM : (M.toList == M.toList) = true := by simp
      have nN : (N.toList == N.toList) = true := by simp
      go_wp2_with fail
      go_quiet (fail)
      go_wp2
      go_roundw
      case rel => exact ⟨k + 1, by omega, by go_num, bel_drewN hb.out _⟩
      case measure => simp [intOf]; omega
    · go_wp2
      go_ret
      exact ⟨rfl, hb.out⟩

set_option maxRecDepth 100000 in
set_option maxHeartbeats 2000000 in
theorem walk_SpanPieces (A : ByteArray) (h1 : A.size ≤ 1048576) (S : ByteArray) (h2 : S.size ≤ 1048576) (w : World) (hw : ML w ∧ Pow w) :
    Calls Tryd.prog 3 #[.string A, .string S] w fun e w' => e = .returned (.bool true) ∧ Below w.heap.size w w' := by
  obtain ⟨bd, rfl⟩ : ∃ s, A = str s := ⟨A.data.toList, (str_self A).symm⟩
  rw [str_size] at h1
  obtain ⟨hml, hpw⟩ := hw
  have hlen := dgo_len9 bd S.data.toList
  have HD := rPieces_any bd h1 S h2
  have HP := Pieces_any bd h1 S h2 w hml hpw
  rw [dps_like] at HD hlen
  have hsl : S.data.toList.length = S.size := size_list S
  rw [hsl] at hlen
  generalize pcsR bd S.data.toList = R at *
  obtain ⟨ps, at_, er⟩ := R
  dsimp only at HD HP hlen
  have HD' : Hid (∀ W, Calls _ _ _ W _) := HD
  have HP' : Hid (∀ W, Below w.heap.size w W → Calls _ _ _ W _) := HP
  have HA : Hid (∀ W, Below w.heap.size w W → Calls Tryd.prog 6 #[] W fun e w' => e = .returned (.bool true) ∧ Below (World.heap W).size W w') := fun W hb => awake_any W (hml.below hb)
  have HPc : Hid (∀ x y W, RdC x ps W → RdC y ps W → Calls Tryd.prog 7 #[x, y] W fun e w' => e = .returned (.bool true) ∧ Below (World.heap W).size W w') := fun x y W h1 h2 => lawPcs_any x y ps W h1 h2 (by omega)
  have HB0 : Hid (Below w.heap.size w w) := Below.refl _ _
  clear HD HP hml hpw hsl
  generalize str bd = BD at *
  have e1 : (at_ == at_) = true := by simp
  have e2 : (er == er) = true := by simp
  go_enter Tryd.func3, Tryd.ntmps3
  go_wp2_with fail
  refine (HP'.out _ HB0.out).mono ?_
  rintro e w1 ⟨lv, rfl, ho1, hb1⟩
  have HR1 : Hid (RdC lv ps w1) := ho1.rd
  have H1 : Hid (Below w.heap.size w w1) := hb1
  obtain ⟨_, _, rfl⟩ := ho1.form
  clear ho1 hb1
  go_wp2_with fail
  refine (HD'.out _).mono ?_
  rintro e w2 ⟨dv, rfl, ho2, hb2⟩
  have HR2 : Hid (RdC _ ps w2) := HR1.out.below hb2
  have HS2 : Hid (RdC dv ps w2) := ho2.rd
  have H2 : Hid (Below w.heap.size w w2) := bel_trans H1.out hb2
  obtain ⟨_, _, rfl⟩ := ho2.form
  clear ho2 hb2
  go_wp2_with fail
  refine (HA.out _ H2.out).mono ?_
  rintro e w3 ⟨rfl, hb3⟩
  have HR3 : Hid (RdC _ ps w3) := HR2.out.below hb3
  have HS3 : Hid (RdC _ ps w3) := HS2.out.below hb3
  have H3 : Hid (Below w.heap.size w w3) := bel_trans H2.out hb3
  clear hb3
  go_wp2_with fail
  refine (HPc.out _ _ _ HR3.out HS3.out).mono ?_
  rintro e w4 ⟨rfl, hb4⟩
  have H4 : Hid (Below w.heap.size w w4) := bel_trans H3.out hb4
  clear hb4
  go_wp2
  go_ret
  exact ⟨rfl, H4.out⟩

end Sn
end Go.Proofs.YthdfgepnadgkjaaDoor
