/- Several texts as one. -/
import Derived.Test.YtepidekmnkempaaDoorAMe
import Derived.Test.YtepidekmnkempaaDoorMgL
import Derived.Test.YtepidekmnkempaaDoorARu
import Derived.Test.YtepidekmnkempaaDoorMgS
import Derived.Test.YtepidekmnkempaaDoorMgT
import Derived.Deep.RegionHeld3
import Derived.Test.YtepidekmnkempaaDoorRows
import Derived.Deep.DeepHandedRow
import Derived.Lay
import Derived.Stop.Joined
/-
  The law's awake.
-/
set_option linter.unusedVariables false
set_option linter.unusedSimpArgs false
namespace Go.Proofs.YtepidekmnkempaaDoor
open Go.RowKit Go.Shelf
namespace Ac
open Oc Tg

theorem qual_half : qual [48, 46, 53] = (500, 0) := by decide
theorem parM_html : parM [84, 101, 120, 116, 47, 72, 116, 109, 108] = some ([116, 101, 120, 116], [104, 116, 109, 108], []) := by rfl

set_option maxRecDepth 100000 in
set_option maxHeartbeats 1000000 in
theorem awake_any (w : World) (hw : Env w) :
    Calls Tryd.prog 7 #[] w fun e w' => e = .returned (.bool true) ∧ Below w.heap.size w w' := by
  have HQ : Hid (∀ w, ML w → Calls Tryd.prog 18 #[.string ⟨#[48, 46, 53]⟩] w fun e w' => e = .returned (.tuple #[.int .i64 500, .int .i64 0]) ∧ Below w.heap.size w w') := fun w h => by
    have := Quality_any ⟨#[48, 46, 53]⟩ (by show 3 ≤ 4000000000; omega) w h
    rw [show (⟨#[48, 46, 53]⟩ : ByteArray).data.toList = [48, 46, 53] from rfl, qual_half] at this
    exact this
  have HP : Hid (∀ w, Env w → Calls Tryd.prog 5 #[.string ⟨#[84, 101, 120, 116, 47, 72, 116, 109, 108]⟩] w fun e w' => ∃ v, e = .returned (.tuple #[.agg #[.string ⟨#[116, 101, 120, 116]⟩, .string ⟨#[104, 116, 109, 108]⟩, v], .int .i64 0]) ∧ OwnP 71 w.heap.size v [] w' ∧ Below w.heap.size w w') := fun w h => by
    have := Parse_any ⟨#[84, 101, 120, 116, 47, 72, 116, 109, 108]⟩ (by show 9 ≤ 134217728; omega) w h
    rw [show (⟨#[84, 101, 120, 116, 47, 72, 116, 109, 108]⟩ : ByteArray).data.toList = [84, 101, 120, 116, 47, 72, 116, 109, 108] from rfl, parM_html] at this
    exact this
  have HE : Hid (Env w) := hw
  clear hw
  go_enter Tryd.func7, Tryd.ntmps7
  go_wp2_with fail
  refine (HQ.out _ HE.out.2).mono ?_
  rintro e w2 ⟨rfl, hb2⟩
  have HB2 : Hid (Below w.heap.size w w2) := hb2
  clear hb2
  go_wp2_with fail
  refine (HP.out _ (HE.out.below HB2.out)).mono ?_
  rintro e w3 ⟨v, rfl, ho, hb3⟩
  have HB3 : Hid (Below w.heap.size w w3) := bel_trans HB2.out hb3
  have HB4 : Hid (Below w.heap.size w (w3.alloc (.cells #[.string ⟨#[116, 101, 120, 116]⟩, .string ⟨#[104, 116, 109, 108]⟩, v] 24))) := HB3.out.alloc HB3.out.size _
  obtain ⟨va, vc, rfl, _⟩ := OwnP.rd ho
  clear hb3 ho HP HQ
  go_wp2
  go_ret
  exact ⟨rfl, HB4.out⟩

end Ac
end Go.Proofs.YtepidekmnkempaaDoor

/-
  The law's sameRanges, of what was read; AcceptRanges.
-/
set_option maxRecDepth 100000
set_option linter.unusedVariables false
set_option linter.unusedSimpArgs false
namespace Go.Proofs.YtepidekmnkempaaDoor
open Go.RowKit Go.Shelf
namespace Ac
open Oc Tg

/-- A slice that reads as these ranges. -/
def RdR2 (v : Value) (t : List Rng) (W : World) : Prop := ∃ a c, v = .slice a t.length c ∧ (t = [] ∨ ∃ g o, a = some ⟨g, o, none⟩ ∧ t.length ≤ c ∧ ∀ j, j < t.length → W.cell? ⟨g, o + j * 4, none⟩ = some (.string (nthR t j).md.ty) ∧ W.cell? ⟨g, o + j * 4 + 1, none⟩ = some (.string (nthR t j).md.sub) ∧ ∃ u, W.cell? ⟨g, o + j * 4 + 2, none⟩ = some u ∧ RdP u (nthR t j).md.ps W ∧ W.cell? ⟨g, o + j * 4 + 3, none⟩ = some (.int .i64 (nthR t j).q))
theorem RdR2.below {W W' : World} {v : Value} {t : List Rng} (h : RdR2 v t W) (b : Below W.heap.size W W') : RdR2 v t W' := by
  obtain ⟨a, c, rfl, h⟩ := h
  refine ⟨a, c, rfl, ?_⟩
  rcases h with h | ⟨g, o, e, hc, hcell⟩
  · exact .inl h
  · refine .inr ⟨g, o, e, hc, fun j hj => ?_⟩
    obtain ⟨h1, h2, u, h3, h4, h5⟩ := hcell j hj
    exact ⟨(b.cell (World.block_lt_of_cell? W _ h1)).trans h1, (b.cell (World.block_lt_of_cell? W _ h2)).trans h2, u, (b.cell (World.block_lt_of_cell? W _ h3)).trans h3, h4.below b, (b.cell (World.block_lt_of_cell? W _ h5)).trans h5⟩
theorem lenAt {t : List Rng} (h : ∀ r ∈ t, r.md.ps.length ≤ 16777216) {k : Nat} (hk : k < t.length) : (nthR t k).md.ps.length ≤ 16777216 := by
  have e : nthR t k = t[k] := by unfold nthR; rw [List.getD_eq_getElem?_getD, List.getElem?_eq_getElem hk]; rfl
  rw [e]
  exact h _ (List.getElem_mem hk)
def rng (x : Rx) : Rng := ⟨⟨str x.1.1, str x.1.2.1, x.1.2.2⟩, x.2⟩
theorem nth_rng {xs : List Rx} {j : Nat} (h : j < xs.length) : nthR (xs.map rng) j = rng (xs.getD j rx0) := by
  unfold nthR
  rw [List.getD_eq_getElem?_getD, List.getD_eq_getElem?_getD, List.getElem?_map, List.getElem?_eq_getElem h]
  rfl
theorem RdR2.of {T T' B : Nat} {v : Value} {ms : List Rw} {xs : List Rx} {W : World} (ho : OwnO T B v ms W) (hl : LikeT T' ms xs W) : RdR2 v (xs.map rng) W := by
  obtain ⟨a, c, rfl, h⟩ := ho.rd
  have hn := hl.1
  refine ⟨a, c, by rw [List.length_map, hn], ?_⟩
  rcases h with h | ⟨g, o, e, hc, hcell⟩
  · left
    rw [h] at hn
    rw [List.length_eq_zero_iff.1 hn.symm]
    rfl
  · refine .inr ⟨g, o, e, by rw [List.length_map]; omega, fun j hj => ?_⟩
    rw [List.length_map] at hj
    rw [nth_rng hj]
    obtain ⟨c0, c1, c2, c3⟩ := hcell j (by omega)
    obtain ⟨e0, e1, e2, e3, _⟩ := hl.2 j (by omega)
    rw [e0] at c0
    rw [e1] at c1
    rw [e2] at c3
    exact ⟨c0, c1, _, c2, e3, c3⟩
theorem rgs_mem : ∀ (t : List (List UInt8)) (r : Rx), r ∈ (rgs t).1 → ∃ x ∈ t, r = (rgR x).1
  | [], r, h => by cases h
  | x :: t, r, h => by
    unfold rgs at h
    split at h
    · cases h
    · split at h
      · cases h
      · rcases List.mem_cons.1 h with rfl | h
        · exact ⟨x, by simp, rfl⟩
        · obtain ⟨y, hy, e⟩ := rgs_mem t r h
          exact ⟨y, by simp [hy], e⟩
theorem rgR_len (l : List UInt8) : (rgR l).1.1.2.2.length ≤ l.length := by
  obtain ⟨_, h2, _, _⟩ := med_bd l
  unfold rgR
  split
  · exact Nat.zero_le _
  · split
    · exact Nat.zero_le _
    · show ((mdP (med l)).take _).length ≤ _
      rw [List.length_take]
      omega
theorem ranges_short (s : ByteArray) (hs : s.size ≤ 1048576) : ∀ r ∈ (rangesR s.data.toList).1.map rng, r.md.ps.length ≤ 16777216 := by
  intro r hr
  obtain ⟨x, hx, rfl⟩ := List.mem_map.1 hr
  obtain ⟨l1, l2⟩ := listR_short s.data.toList
  rw [size_list] at l1 l2
  unfold rangesR at hx
  split at hx
  · cases hx
  · obtain ⟨y, hy, rfl⟩ := rgs_mem _ _ hx
    have h1 := rgR_len y
    have h2 := l2 y hy
    show (rgR y).1.1.2.2.length ≤ _
    omega
theorem ranges_len (s : ByteArray) (hs : s.size ≤ 1048576) : ((rangesR s.data.toList).1.map rng).length ≤ 16777216 := by
  obtain ⟨l1, l2⟩ := listR_short s.data.toList
  rw [size_list] at l1 l2
  rw [List.length_map]
  have rl : ∀ t : List (List UInt8), (rgs t).1.length ≤ t.length := by
    intro t
    induction t with
    | nil => exact Nat.le_refl _
    | cons x t ih =>
      unfold rgs
      split
      · exact Nat.zero_le _
      · split
        · exact Nat.zero_le _
        · simp only [List.length_cons]
          omega
  unfold rangesR
  split
  · exact Nat.zero_le _
  · have := rl (listR s.data.toList).1
    omega

set_option maxHeartbeats 4000000 in
theorem sameRanges2_any (v u : Value) (t : List Rng) (ht : ∀ r ∈ t, r.md.ps.length ≤ 16777216) (hl : t.length ≤ 16777216) (w : World) (hv : RdR2 v t w) (hu : RdR2 u t w) :
    Calls Tryd.prog 11 #[v, u] w fun e w' => e = .returned (.bool true) ∧ Below w.heap.size w w' := by
  have HT : Hid (RdR2 v t w) := hv
  have HU : Hid (RdR2 u t w) := hu
  have HOk : Hid (∀ r ∈ t, r.md.ps.length ≤ 16777216) := ht
  obtain ⟨va, vc, rfl, _⟩ := hv
  obtain ⟨ua, uc, rfl, _⟩ := hu
  clear ht
  have hne : ((t.length : Int) != (t.length : Int)) = false := by simp
  go_enter Tryd.func11, Tryd.ntmps11
  go_wp2
  go_loopw [5] (fun i wr => ∃ (k : Nat), k ≤ t.length ∧ i = .int .i64 k ∧ Hid (Below w.heap.size w wr)) (fun i _ => t.length - (intOf i).toNat)
  case atStart => exact ⟨0, Nat.zero_le _, rfl, Below.refl _ _⟩
  case round =>
    obtain ⟨k, hk, rfl, hbl⟩ := hrel
    by_cases hlt : k < t.length
    · obtain ⟨a', c', e', hcs⟩ := HT.out.below hbl.out
      injection e' with e1 _ e2
      subst e1 e2
      rcases hcs with h | ⟨g, o, rfl, hlc, hcell⟩
      · rw [h] at hlt; simp at hlt
      obtain ⟨p0, p1, u', p2, hrp, p3⟩ := hcell k hlt
      obtain ⟨a', c', e', hcs⟩ := HU.out.below hbl.out
      injection e' with e1 _ e2
      subst e1 e2
      rcases hcs with h | ⟨g2, o2, rfl, hlc2, hcell2⟩
      · rw [h] at hlt; simp at hlt
      obtain ⟨r0, r1, u2, r2, hrp2, r3⟩ := hcell2 k hlt
      have hok := lenAt HOk.out hlt
      have HC : Hid (∀ W, Below wr.heap.size wr W → Calls Tryd.prog 8 #[.agg #[.string (nthR t k).md.ty, .string (nthR t k).md.sub, u'], .agg #[.string (nthR t k).md.ty, .string (nthR t k).md.sub, u2]] W fun e w' => e = .returned (.bool true) ∧ Below (World.heap W).size W w') := fun W b => alike07_any _ _ _ _ (nthR t k).md.ps W (hrp.below b) (hrp2.below b) (by omega)
      obtain ⟨ra, rc, rfl, _⟩ := hrp
      obtain ⟨sa, sc, rfl, _⟩ := hrp2
      clear hcell hcell2 hok
      generalize (nthR t k).md.ty = N1 at *
      generalize (nthR t k).md.sub = N2 at *
      generalize (nthR t k).md.ps.length = rn at *
      generalize (nthR t k).q = q at *
      have hki : (k : Int) < (t.length : Int) := by omega
      have hk0 : (0 : Int) ≤ (k : Int) := by omega
      have hqq : (q != q) = false := by simp
      have HCell : Hid (∀ W, Below wr.heap.size wr W → (W.cell? ⟨g, o + k * 4, none⟩ = some (.string N1) ∧ W.cell? ⟨g, o + k * 4 + 1, none⟩ = some (.string N2) ∧ W.cell? ⟨g, o + k * 4 + 2, none⟩ = some (.slice ra rn rc) ∧ W.cell? ⟨g, o + k * 4 + 3, none⟩ = some (.int .i64 q)) ∧ (W.cell? ⟨g2, o2 + k * 4, none⟩ = some (.string N1) ∧ W.cell? ⟨g2, o2 + k * 4 + 1, none⟩ = some (.string N2) ∧ W.cell? ⟨g2, o2 + k * 4 + 2, none⟩ = some (.slice sa rn sc) ∧ W.cell? ⟨g2, o2 + k * 4 + 3, none⟩ = some (.int .i64 q))) := fun W b => ⟨⟨(b.cell (World.block_lt_of_cell? wr _ p0)).trans p0, (b.cell (World.block_lt_of_cell? wr _ p1)).trans p1, (b.cell (World.block_lt_of_cell? wr _ p2)).trans p2, (b.cell (World.block_lt_of_cell? wr _ p3)).trans p3⟩, (b.cell (World.block_lt_of_cell? wr _ r0)).trans r0, (b.cell (World.block_lt_of_cell? wr _ r1)).trans r1, (b.cell (World.block_lt_of_cell? wr _ r2)).trans r2, (b.cell (World.block_lt_of_cell? wr _ r3)).trans r3⟩
      clear p0 p1 p2 p3 r0 r1 r2 r3
      have HBn : Hid (Below wr.heap.size wr wr.drew) := (Below.refl _ _).drew
      go_wp2_with fail
      go_region_held3 (fun W => (W.cell? ⟨g, o + k * 4, none⟩ = some (.string N1) ∧ W.cell? ⟨g, o + k * 4 + 1, none⟩ = some (.string N2) ∧ W.cell? ⟨g, o + k * 4 + 2, none⟩ = some (.slice ra rn rc) ∧ W.cell? ⟨g, o + k * 4 + 3, none⟩ = some (.int .i64 q)) ∧ (W.cell? ⟨g2, o2 + k * 4, none⟩ = some (.string N1) ∧ W.cell? ⟨g2, o2 + k * 4 + 1, none⟩ = some (.string N2) ∧ W.cell? ⟨g2, o2 + k * 4 + 2, none⟩ = some (.slice sa rn sc) ∧ W.cell? ⟨g2, o2 + k * 4 + 3, none⟩ = some (.int .i64 q))) (first | with_reducible exact HCell.out _ HBn.out) (first
        | (go_at_call 8; refine (HC.out _ HBn.out).mono ?_; rintro e wn ⟨rfl, hbn⟩; have HBn : Hid (Below wr.heap.size wr wn) := bel_trans HBn.out hbn; clear hbn))
      all_goals
        go_wp2
        go_roundw
        case rel => exact ⟨k + 1, by omega, by go_num, bel_trans hbl.out HBn.out⟩
        case measure => simp [intOf]; omega
    · obtain rfl : k = t.length := by omega
      go_wp2
      go_ret
      exact ⟨rfl, hbl.out⟩

set_option maxHeartbeats 4000000 in
theorem walk_AcceptRanges (s : ByteArray) (hs : s.size ≤ 1048576) (w : World) (hw : Env w) :
    Calls Tryd.prog 4 #[.string s] w fun e w' => e = .returned (.bool true) ∧ Below w.heap.size w w' := by
  have hsh := ranges_short s hs
  have hln := ranges_len s hs
  have HE : Hid (∀ W, Below w.heap.size w W → Env W) := fun W b => hw.below b
  have H1 : Hid (Calls Tryd.prog 9 #[.string s] w fun e w' => ∃ v, e = .returned (.tuple #[v, .int .i64 (rangesR s.data.toList).2]) ∧ RdR2 v ((rangesR s.data.toList).1.map rng) w' ∧ Below w.heap.size w w') := (Ranges_any s hs w hw).mono fun e w' ⟨v, he, ⟨ms, ho, hl⟩, hb⟩ => ⟨v, he, RdR2.of ho hl, hb⟩
  have H2 : Hid (∀ W, Calls Tryd.prog 10 #[.string s] W fun e w' => ∃ v, e = .returned (.tuple #[v, .int .i64 (rangesR s.data.toList).2]) ∧ RdR2 v ((rangesR s.data.toList).1.map rng) w' ∧ Below (World.heap W).size W w') := fun W => (rRanges_any s hs W).mono fun e w' ⟨v, he, ⟨ms, ho, hl⟩, hb⟩ => ⟨v, he, RdR2.of ho hl, hb⟩
  clear hw
  generalize (rangesR s.data.toList).1.map rng = t at *
  generalize (rangesR s.data.toList).2 = E at *
  have HS : Hid (∀ v u W, RdR2 v t W → RdR2 u t W → Calls Tryd.prog 11 #[v, u] W fun e w' => e = .returned (.bool true) ∧ Below (World.heap W).size W w') := fun v u W h1 h2 => sameRanges2_any v u t hsh hln W h1 h2
  have hEE : (E == E) = true := by simp
  clear hsh
  go_enter Tryd.func4, Tryd.ntmps4
  go_wp2_with fail
  refine H1.out.mono ?_
  rintro e w1 ⟨v1, rfl, h1, hb1⟩
  have HV1 : Hid (RdR2 v1 t w1) := h1
  have HB1 : Hid (Below w.heap.size w w1) := hb1
  obtain ⟨a1, c1, rfl, _⟩ := h1
  clear hb1
  go_wp2_with fail
  refine (H2.out _).mono ?_
  rintro e w2 ⟨v2, rfl, h2, hb2⟩
  have HV2 : Hid (RdR2 v2 t w2) := h2
  have HV1b : Hid (RdR2 (.slice a1 t.length c1) t w2) := HV1.out.below hb2
  have HB2 : Hid (Below w.heap.size w w2) := bel_trans HB1.out hb2
  obtain ⟨a2, c2, rfl, _⟩ := h2
  clear hb2
  go_wp2_with fail
  refine (awake_any w2 (HE.out _ HB2.out)).mono ?_
  rintro e w3 ⟨rfl, hb3⟩
  have HV13 : Hid (RdR2 (.slice a1 t.length c1) t w3) := HV1b.out.below hb3
  have HV23 : Hid (RdR2 (.slice a2 t.length c2) t w3) := HV2.out.below hb3
  have HB3 : Hid (Below w.heap.size w w3) := bel_trans HB2.out hb3
  clear hb3
  go_wp2_with fail
  refine (HS.out _ _ _ HV13.out HV23.out).mono ?_
  rintro e w4 ⟨rfl, hb4⟩
  have HB4 : Hid (Below w.heap.size w w4) := bel_trans HB3.out hb4
  clear hb4
  go_wp2
  go_ret
  exact ⟨by simp, HB4.out⟩

end Ac
end Go.Proofs.YtepidekmnkempaaDoor

/-
  A witness for a row with a condition of its own, at a world whose listed tables are laid.
-/
set_option linter.unusedVariables false
namespace Go.Proofs.YtepidekmnkempaaDoor
namespace Oc

theorem witness_zip {H : Type} {enc : TypeId × Value → H} {C : Checked} {os : Os} {f : FuncId} {fn : Func} {s : OpenSpec} {conds : List PathCond} {apart : Bool} {laid : List (String × DataW Unit)} (modest : Bool) (w0 : World) (args : Array Value) (hos : w0.os = os)
    (hsh : (w0.forCall (fun _ _ => 0) ⟨#[], args, []⟩).Shaped C.prog)
    (hok : Input.okWideB C.prog (w0.forCall (fun _ _ => 0) ⟨#[], args, []⟩) f ⟨#[], args, []⟩ = true)
    (hrow : s.preRow enc C.prog fn conds apart laid (w0.forCall (fun _ _ => 0) ⟨#[], args, []⟩).memory args) :
    ∃ (w : World) (tape : Tape) (i : Input), w.os = os ∧ (w.forCall tape i).Shaped C.prog ∧ i.vars = [] ∧ Input.okWide C.prog (w.forCall tape i) .any w.heap.size f i ∧
      s.preRow enc C.prog fn conds apart laid (w.forCall tape i).memory i.args ∧ ({ modest := modest } : Assume).holds C.prog (lone (Frame.enter C.prog f i.args .normal) [] (w.forCall tape i)) :=
  ⟨w0, fun _ _ => 0, ⟨#[], args, []⟩, hos, hsh, (Input.okWide_of_okWideB (base := 0) hok).1, (Input.okWide_of_okWideB hok).2, hrow, by
    simp only [Assume.holds]
    exact ⟨by simp, by simp, fun _ => Modest.zero, by simp, by simp⟩⟩

end Oc
end Go.Proofs.YtepidekmnkempaaDoor
