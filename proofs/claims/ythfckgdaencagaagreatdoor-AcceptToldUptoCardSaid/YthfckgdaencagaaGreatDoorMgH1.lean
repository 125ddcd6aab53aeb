/- Several texts as one. -/
import Derived.Test.YthfckgdaencagaaGreatDoorMgG1
import Derived.Test.YthfckgdaencagaaGreatDoorRows
import Derived.Deep.DeepHandedRow
import Derived.Lay
import Derived.Stop.Joined
/-
  The law AcceptTold.
-/
set_option linter.unusedVariables false
set_option linter.unusedSimpArgs false
namespace Go.Proofs.YthfckgdaencagaaGreatDoor
open Go.RowKit Go.Shelf
namespace Ac
open Oc

set_option maxRecDepth 100000 in
set_option maxHeartbeats 8000000 in
theorem walk_AcceptTold (s : ByteArray) (hs : s.size ≤ 1048576) (u : Value) (ts : List (List UInt8)) (hb : bulkstrings ts ≤ 1048576) (w : World) (hr : RdS u ts w) (hw : Env w) :
    Calls Tryz.prog 3 #[.string s, u] w fun e w' => e = .returned (.bool true) ∧ Below w.heap.size w w' := by
  obtain ⟨hlen, heach⟩ := texts_bulk ts hb
  have HM : Hid (∀ r ∈ mds ts, OkMd r) := mds_ok ts heach
  have hml : (mds ts).length ≤ 16777216 := by have := mds_len ts; omega
  have HRo : Hid (∀ r ∈ (rangesR s.data.toList).1.map rng, OkMd r.md) := rng_ok s hs
  have hrl := ranges_len s hs
  have HR1 : Hid (∀ W, Env W → _) := fun W h => Ranges_any s hs W h
  have HR2 : Hid (∀ W, _) := fun W => rRanges_any s hs W
  have HA : Hid (∀ W, Env W → _) := fun W h => awake_any W h
  have HE : Hid (Env w) := hw
  have HEach : Hid (∀ x ∈ ts, x.length ≤ 1048576) := heach
  have HC1 : Hid (∀ v y W, RdRg v ((rangesR s.data.toList).1.map rng) W → RdMs y (mds ts) W → _) := fun v y W h1 h2 => Choose_any v y _ (mds ts) HM.out hml HRo.out hrl W h1 h2
  have HC2 : Hid (∀ v y W, RdRg v ((rangesR s.data.toList).1.map rng) W → RdMs y (mds ts) W → _) := fun v y W h1 h2 => rChoose_any v y _ (mds ts) HM.out hml HRo.out hrl W h1 h2
  have HRd : Hid (RdS u ts w) := hr
  obtain ⟨ua, uc, rfl, _⟩ := hr
  clear hw hb heach
  have HOR : Hid (∀ (T T' B : Nat) (v : Value) (ms : List Rw) (W : World), OwnO T B v ms W → LikeT T' ms (rangesR s.data.toList).1 W → RdRg v ((rangesR s.data.toList).1.map rng) W) := fun T T' B v ms W h1 h2 => RdRg.of h1 h2
  generalize (rangesR s.data.toList).1.map rng = RG at *
  generalize (bsM (fun k => likM RG (nthM (mds ts) k)) (mds ts).length).1 = V at *
  generalize rangesR s.data.toList = RR at *
  obtain ⟨RL, RE⟩ := RR
  dsimp only at HR1 HR2 HOR
  have hee : (RE != RE) = false := by simp
  go_enter Tryz.func3, Tryz.ntmps3
  go_wp2_with fail
  refine (HR1.out _ HE.out).mono ?_
  rintro e w1 ⟨v1, rfl, ⟨m1, ho1, hl1⟩, hb1⟩
  have HB1 : Hid (Below w.heap.size w w1) := hb1
  have HG1 : Hid (RdRg v1 RG w1) := HOR.out _ _ _ _ _ _ ho1 hl1
  clear ho1 hl1 hb1
  go_wp2_with fail
  refine (HR2.out _).mono ?_
  rintro e w2 ⟨v2, rfl, ⟨m2, ho2, hl2⟩, hb2⟩
  have HB2 : Hid (Below w.heap.size w w2) := bel_trans HB1.out hb2
  have HG2 : Hid (RdRg v2 RG w2) := HOR.out _ _ _ _ _ _ ho2 hl2
  have HG1b : Hid (RdRg v1 RG w2) := HG1.out.below hb2
  clear ho2 hl2 hb2 HG1
  go_wp2_with fail
  refine (HA.out _ (HE.out.below HB2.out)).mono ?_
  rintro e w3 ⟨rfl, hb3⟩
  have HB3 : Hid (Below w.heap.size w w3) := bel_trans HB2.out hb3
  have HG3 : Hid (RdRg v1 RG w3 ∧ RdRg v2 RG w3) := ⟨HG1b.out.below hb3, HG2.out.below hb3⟩
  clear hb3 HG2 HG1b
  obtain ⟨a1, c1, rfl, _⟩ := HG3.out.1
  obtain ⟨a2, c2, rfl, _⟩ := HG3.out.2
  have HS : Hid (OwnQ 35 w3.heap.size (.slice (some ⟨w3.heap.size, 0, none⟩) 0 0) [] ((w3.alloc (.cells #[] 35)).alloc (.cells #[] 40)) ∧ OwnQ 40 w3.heap.size (.slice (some ⟨w3.heap.size + 1, 0, none⟩) 0 0) [] ((w3.alloc (.cells #[] 35)).alloc (.cells #[] 40)) ∧ Below w3.heap.size w3 ((w3.alloc (.cells #[] 35)).alloc (.cells #[] 40))) := by
    refine ⟨(ownQ_empty _ w3 (Nat.le_refl _)).below ((Below.refl _ _).alloc (Nat.le_refl _) _), ?_, ((Below.refl _ w3).alloc (Nat.le_refl _) _).alloc (by simp) _⟩
    have h := ownQ_empty 40 (B := w3.heap.size) (w3.alloc (.cells #[] 35)) (by simp)
    rw [World.size_alloc] at h
    exact h
  go_wp2
  go_loopw [9, 10, 11] (fun lv wv i wr => ∃ (k : Nat) (ms ns : List Mw), k ≤ ts.length ∧ i = .int .i64 k ∧ Hid (OwnQ 35 w3.heap.size lv ms wr) ∧ Hid (OwnQ 40 w3.heap.size wv ns wr) ∧ Hid (ms.length = cnt ts k ∧ ns.length = cnt ts k) ∧ Hid (LikeQ 95 ms (mds ts) wr) ∧ Hid (LikeQ 84 ns (mds ts) wr) ∧ Hid (Below w3.heap.size w3 wr)) (fun _ _ i _ => ts.length - (intOf i).toNat)
  case atStart => exact ⟨0, [], [], Nat.zero_le _, rfl, HS.out.1, HS.out.2.1, (⟨rfl, rfl⟩ : _ ∧ _), (fun j hj => by simp at hj : LikeQ _ _ _ _), (fun j hj => by simp at hj : LikeQ _ _ _ _), HS.out.2.2⟩
  case round =>
    obtain ⟨k, ms, ns, hk, rfl, ho, hp, hcnt, hlm, hln, hbl⟩ := hrel
    by_cases hlt : k < ts.length
    · obtain ⟨a', c', e', hcs⟩ := HRd.out.below (bel_trans HB3.out hbl.out)
      injection e' with e1 _ e2
      subst e1 e2
      rcases hcs with h | ⟨g, o, rfl, hlc, hcell⟩
      · rw [h] at hlt; simp at hlt
      have hx0 := hcell k hlt
      have hgw : g < wr.heap.size := World.block_lt_of_cell? wr _ hx0
      have hxl := HEach.out _ (getD_mem ts k hlt)
      have HP1 : Hid (∀ W, Env W → Calls Tryz.prog 7 #[.string (str (ts.getD k []))] W fun e w' => ∃ v, e = .returned (.tuple #[.agg #[.string (mdx (ts.getD k [])).ty, .string (mdx (ts.getD k [])).sub, v], .int .i64 (parE (parM (ts.getD k [])))]) ∧ OwnP 95 (World.heap W).size v (mdx (ts.getD k [])).ps w' ∧ Below (World.heap W).size W w') := fun W h => by
        have := Parse_any (str (ts.getD k [])) (by rw [str_size]; omega) W h
        rw [str_list] at this
        exact this
      have HP2 : Hid (∀ W, Env W → Calls Tryz.prog 8 #[.string (str (ts.getD k []))] W fun e w' => ∃ v, e = .returned (.tuple #[.agg #[.string (mdx (ts.getD k [])).ty, .string (mdx (ts.getD k [])).sub, v], .int .i64 (parE (parM (ts.getD k [])))]) ∧ OwnP 84 (World.heap W).size v (mdx (ts.getD k [])).ps w' ∧ Below (World.heap W).size W w') := fun W h => by
        have := rParse07_any (str (ts.getD k [])) (by rw [str_size]; omega) W h
        rw [str_list] at this
        exact this
      have HY : Hid (parE (parM (ts.getD k [])) = 0 → nthM (mds ts) (cnt ts k) = mdx (ts.getD k []) ∧ cnt ts (k + 1) = cnt ts k + 1) := fun h => ⟨mds_at ts k hlt (by unfold okx; rw [h]; rfl), cnt_yes ts k hlt (by unfold okx; rw [h]; rfl)⟩
      have HN : Hid (parE (parM (ts.getD k [])) ≠ 0 → cnt ts (k + 1) = cnt ts k) := fun h => cnt_no ts k hlt (by unfold okx; exact decide_eq_false h)
      have hck := cnt_le ts k
      clear hcell
      generalize mdx (ts.getD k []) = D at *
      generalize parE (parM (ts.getD k [])) = E at *
      generalize str (ts.getD k []) = X at *
      obtain ⟨N1, N2, PS⟩ := D
      dsimp only at HP1 HP2
      have hEE : (E != E) = false := by simp
      go_wp2_with fail
      refine (HP1.out _ (HE.out.below (bel_trans HB3.out hbl.out))).mono ?_
      rintro e w4 ⟨va, rfl, hq4, hb4⟩
      have HQ4 : Hid (OwnP 95 0 va PS w4) := OwnP.mono hq4 (Nat.zero_le _)
      obtain ⟨xa, xc, rfl, _⟩ := OwnP.rd hq4
      have HB4 : Hid (Below wr.heap.size wr w4) := hb4
      have hx4 := (hb4.cell hgw).trans hx0
      obtain ⟨w5, hw5⟩ : ∃ w5, w5 = w4.alloc (.cells #[.string N1, .string N2, .slice xa PS.length xc] 35) := ⟨_, rfl⟩
      have r5 : w5.heap[w4.heap.size]? = some (.cells #[.string N1, .string N2, .slice xa PS.length xc] 35 (0, 0)) := by rw [hw5]; exact heap_alloc_new w4 _
      have hb5 : Below w4.heap.size w4 w5 := by rw [hw5]; exact (Below.refl _ w4).alloc (Nat.le_refl _) _
      have hz5 : w4.heap.size < w5.heap.size := by rw [hw5]; simp
      have hg4 : g < w4.heap.size := Nat.lt_of_lt_of_le hgw hb4.size
      have hx5 := (hb5.cell hg4).trans hx4
      have HB5 : Hid (Below wr.heap.size wr w5) := bel_trans HB4.out hb5
      have HQ5 : Hid (OwnP 95 0 (.slice xa PS.length xc) PS w5) := HQ4.out.below hb5
      clear hb4 hq4 hb5 HQ4
      go_wp2_with fail
      rw [← hw5]
      clear hw5
      refine (HP2.out _ (HE.out.below (bel_trans (bel_trans HB3.out hbl.out) HB5.out))).mono ?_
      rintro e w6 ⟨vb, rfl, hq6, hb6⟩
      have HQ6 : Hid (OwnP 84 0 vb PS w6) := OwnP.mono hq6 (Nat.zero_le _)
      obtain ⟨ya, yc, rfl, _⟩ := OwnP.rd hq6
      have r6 : w6.heap[w4.heap.size]? = some (.cells #[.string N1, .string N2, .slice xa PS.length xc] 35 (0, 0)) := (hb6.block _ hz5).trans r5
      have HB6 : Hid (Below wr.heap.size wr w6) := bel_trans HB5.out hb6
      have HA6 : Hid (OwnP 95 0 (.slice xa PS.length xc) PS w6) := HQ5.out.below hb6
      have hz6 : w4.heap.size < w6.heap.size := Nat.lt_of_lt_of_le hz5 hb6.size
      obtain ⟨y0, y1, y2⟩ := row3 r6
      obtain ⟨w7, hw7⟩ : ∃ w7, w7 = w6.alloc (.cells #[.string N1, .string N2, .slice ya PS.length yc] 40) := ⟨_, rfl⟩
      have r7 : w7.heap[w6.heap.size]? = some (.cells #[.string N1, .string N2, .slice ya PS.length yc] 40 (0, 0)) := by rw [hw7]; exact heap_alloc_new w6 _
      have hb7 : Below w6.heap.size w6 w7 := by rw [hw7]; exact (Below.refl _ w6).alloc (Nat.le_refl _) _
      have hz7 : w6.heap.size < w7.heap.size := by rw [hw7]; simp
      have HB7 : Hid (Below wr.heap.size wr w7) := bel_trans HB6.out hb7
      have HA7 : Hid (OwnP 95 0 (.slice xa PS.length xc) PS w7) := HA6.out.below hb7
      have HC7 : Hid (OwnP 84 0 (.slice ya PS.length yc) PS w7) := HQ6.out.below hb7
      have hO7 := ho.out.below HB7.out
      have hP7 := hp.out.below HB7.out
      have HLm7 : Hid (LikeQ 95 ms (mds ts) w7) := hlm.out.below HB7.out
      have HLn7 : Hid (LikeQ 84 ns (mds ts) w7) := hln.out.below HB7.out
      have HB37 : Hid (Below w3.heap.size w3 w7) := bel_trans hbl.out HB7.out
      have HO7 : Hid (OwnQ 35 w3.heap.size u9 ms w7) := hO7
      have HP7 : Hid (OwnQ 40 w3.heap.size u10 ns w7) := hP7
      have h67 : w4.heap.size ≠ w6.heap.size := by omega
      clear hb6 hq6 HQ6 hb7 r5 HQ5 HA6 hO7 hP7
      by_cases hE : E = 0
      · subst hE
        obtain ⟨hmd, hc1⟩ := HY.out rfl
        have HMd : Hid (nthM (mds ts) ms.length = ⟨N1, N2, PS⟩ ∧ nthM (mds ts) ns.length = ⟨N1, N2, PS⟩) := (by rw [hcnt.out.1, hcnt.out.2]; exact ⟨hmd, hmd⟩ : _ ∧ _)
        have HCn : Hid (ms.length + 1 = cnt ts (k + 1) ∧ ns.length + 1 = cnt ts (k + 1)) := (by rw [hc1, hcnt.out.1, hcnt.out.2]; exact ⟨rfl, rfl⟩ : _ ∧ _)
        have hl1 : Hid (ms.length + 1 ≤ 2147483648 ∧ ns.length + 1 ≤ 2147483648) := (by rw [hcnt.out.1, hcnt.out.2]; omega : _ ∧ _)
        have HOlt : Hid (∀ b, Value.ownBlock u9 = some b → b < w6.heap.size) := fun b e => Nat.lt_of_lt_of_le (OwnQ.lt ho.out e) HB6.out.size
        have hB7 : w3.heap.size ≤ w7.heap.size := HB37.out.size
        have HK : Hid (∀ w8 : World, (∀ k, k < w7.heap.size → Value.ownBlock u9 ≠ some k → w8.heap[k]? = w7.heap[k]?) → (w8.heap[w6.heap.size]? = some (.cells #[.string N1, .string N2, .slice ya PS.length yc] 40 (0, 0))) ∧ OwnQ 40 w3.heap.size u10 ns w8 ∧ LikeQ 84 ns (mds ts) w8 ∧ LikeQ 95 (ms ++ [⟨N1, N2, xa, PS.length, xc⟩]) (mds ts) w8 ∧ OwnP 84 0 (.slice ya PS.length yc) PS w8) := fun w8 hk8 =>
          ⟨(hk8 _ hz7 (fun e => by have := HOlt.out _ e; omega)).trans r7, keepQQ HO7.out HP7.out (by decide) hk8, HLn7.out.keep HO7.out (by decide) hk8, LikeQ.snoc HLm7.out HO7.out (by decide) (by rw [HMd.out.1]; exact HA7.out) hk8 (by rw [HMd.out.1]) (by rw [HMd.out.1]), keepQP HO7.out HC7.out (by decide) hk8⟩
        subst hw7
        clear r7 hmd hc1 HOlt HLm7 HLn7 HP7 HA7 HC7
        go_wp2_with (first
          | (at_builtin; refine wp_appQ 35 31 infoQa Tryz.underlying31 rfl (.tmp 62) (.tmp 64) rfl w3.heap.size _ ms _ ⟨N1, N2, xa, PS.length, xc⟩ rfl HO7.out _ (by simp [Act.eval, Act.put]) rfl hl1.out.1 hB7 ?_; intro v8 w8 hown8 hb8 hkeep8; obtain ⟨r8, hp8, hln8, hlm8, hc8⟩ := HK.out w8 hkeep8; have HB8 : Hid (Below w3.heap.size w3 w8) := HB37.out.trans hb8; have HP8 : Hid (OwnQ 40 w3.heap.size u10 ns w8) := hp8; have HK8 : Hid (∀ w9 : World, (∀ k, k < w8.heap.size → Value.ownBlock u10 ≠ some k → w9.heap[k]? = w8.heap[k]?) → OwnQ 35 w3.heap.size v8 (ms ++ [⟨N1, N2, xa, PS.length, xc⟩]) w9 ∧ LikeQ 95 (ms ++ [⟨N1, N2, xa, PS.length, xc⟩]) (mds ts) w9 ∧ LikeQ 84 (ns ++ [⟨N1, N2, ya, PS.length, yc⟩]) (mds ts) w9) := fun w9 hk9 => ⟨keepQQ hp8 hown8 (by decide) hk9, hlm8.keep hp8 (by decide) hk9, LikeQ.snoc hln8 hp8 (by decide) (by rw [HMd.out.2]; exact hc8) hk9 (by rw [HMd.out.2]) (by rw [HMd.out.2])⟩; have hB8 : w3.heap.size ≤ w8.heap.size := HB8.out.size; obtain ⟨z0, z1, z2⟩ := row3 r8; clear hp8 hln8 hlm8 hc8 hown8 hb8 hkeep8 r8)
          | (at_builtin; refine wp_appQ 40 32 infoQ Tryz.underlying32 rfl (.tmp 66) (.tmp 68) rfl w3.heap.size _ ns _ ⟨N1, N2, ya, PS.length, yc⟩ rfl HP8.out _ (by simp [Act.eval, Act.put]) rfl hl1.out.2 hB8 ?_; intro v9 w9 hown9 hb9 hkeep9))
        obtain ⟨ho9, hlm9, hln9⟩ := HK8.out w9 hkeep9
        have HO9 : Hid (OwnQ 35 w3.heap.size v8 (ms ++ [⟨N1, N2, xa, PS.length, xc⟩]) w9) := ho9
        have HP9 : Hid (OwnQ 40 w3.heap.size v9 (ns ++ [⟨N1, N2, ya, PS.length, yc⟩]) w9) := hown9
        have HLm9 : Hid (LikeQ 95 (ms ++ [⟨N1, N2, xa, PS.length, xc⟩]) (mds ts) w9) := hlm9
        have HLn9 : Hid (LikeQ 84 (ns ++ [⟨N1, N2, ya, PS.length, yc⟩]) (mds ts) w9) := hln9
        have HB9 : Hid (Below w3.heap.size w3 w9) := HB8.out.trans hb9
        clear ho9 hlm9 hln9 hown9 hb9 hkeep9 HK8
        go_roundw
        case rel => exact ⟨k + 1, _, _, by omega, by go_num, HO9, HP9, (by rw [List.length_append, List.length_append]; exact HCn.out : _ ∧ _), HLm9, HLn9, HB9⟩
        case measure => simp [intOf]; omega
      · have hE0 : (E == 0) = false := by simpa using hE
        have hc0 := HN.out hE
        have HCn : Hid (ms.length = cnt ts (k + 1) ∧ ns.length = cnt ts (k + 1)) := (by rw [hc0]; exact hcnt.out : _ ∧ _)
        subst hw7
        go_wp2
        go_roundw
        case rel => exact ⟨k + 1, ms, ns, by omega, by go_num, HO7, HP7, HCn, HLm7, HLn7, HB37⟩
        case measure => simp [intOf]; omega
    · obtain rfl : k = ts.length := by omega
      have HX : Hid (RdRg (.slice a1 RG.length c1) RG wr ∧ RdRg (.slice a2 RG.length c2) RG wr) := ⟨HG3.out.1.below hbl.out, HG3.out.2.below hbl.out⟩
      have HYm : Hid (RdMs _ (mds ts) wr) := RdMs.of_like ho.out hlm.out (by rw [hcnt.out.1, cnt_all])
      have HYn : Hid (RdMs _ (mds ts) wr) := RdMs.of_like hp.out hln.out (by rw [hcnt.out.2, cnt_all])
      go_wp2_with fail
      refine (HC1.out _ _ _ HX.out.1 HYm.out).mono ?_
      rintro e w4 ⟨rfl, hb4⟩
      have HB4 : Hid (Below w.heap.size w w4) := bel_trans (bel_trans HB3.out hbl.out) hb4
      have HX4 : Hid (RdRg (.slice a2 RG.length c2) RG w4) := HX.out.2.below hb4
      have HY4 : Hid (RdMs _ (mds ts) w4) := HYn.out.below hb4
      clear hb4
      go_wp2_with fail
      refine (HC2.out _ _ _ HX4.out HY4.out).mono ?_
      rintro e w5 ⟨rfl, hb5⟩
      have HB5 : Hid (Below w.heap.size w w5) := bel_trans HB4.out hb5
      have hVV : (V == V) = true := by simp
      clear hb5
      go_wp2
      go_ret
      exact ⟨by simp, HB5.out⟩

end Ac
end Go.Proofs.YthfckgdaencagaaGreatDoor

/-
  A witness for a row with a condition of its own, at a world whose listed tables are laid.
-/
set_option linter.unusedVariables false
namespace Go.Proofs.YthfckgdaencagaaGreatDoor
namespace Oc

theorem witness_zip {H : Type} {enc : TypeId × Value → H} {C : Checked} {os : Os} {f : FuncId} {fn : Func} {s : OpenSpec} {conds : List PathCond} {apart : Bool} {laid : List (String × DataW Unit)} (modest : Bool) (w0 : World) (args : Array Value) (hos : w0.os = os)
    (hsh : (w0.forCall (fun _ _ => 0) ⟨#[], args, []⟩).Shaped C.prog)
    (hok : Input.okWideB C.prog (w0.forCall (fun _ _ => 0) ⟨#[], args, []⟩) f ⟨#[], args, []⟩ = true)
    (hrow : s.preRow enc C.prog fn conds apart laid (w0.forCall (fun _ _ => 0) ⟨#[], args, []⟩).memory args) :
    ∃ (w : World) (tape : Tape) (i : Input), w.os = os ∧ (w.forCall tape i).Shaped C.prog ∧ i.vars = [] ∧ Input.okWide C.prog (w.forCall tape i) .any w.heap.size f i ∧
      s.preRow enc C.prog fn conds apart laid (w.forCall tape i).memory i.args ∧ ({ modest := modest } : Assume).holds C.prog (lone (Frame.enter C.prog f i.args .normal) [] (w.forCall tape i)) :=
  ⟨w0, fun _ _ => 0, ⟨#[], args, []⟩, hos, hsh, (Input.okWide_of_okWideB (base := 0) hok).1, (Input.okWide_of_okWideB hok).2, hrow, by
    simp only [Assume.holds]
    exact ⟨by simp, by simp, fun _ => Modest.zero, by simp, by simp⟩⟩

end Oc
end Go.Proofs.YthfckgdaencagaaGreatDoor
