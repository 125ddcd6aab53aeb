/-
  The document's Pieces, walked.
-/
import Derived.Test.YthdfgepnadgkjaaDoorPcJ
import Derived.Deep.RegionLaw
set_option linter.unusedVariables false
set_option linter.unusedSimpArgs false
namespace Go.Proofs.YthdfgepnadgkjaaDoor
open Go.RowKit Go.Shelf
namespace Sn
open Oc Tg Ac

theorem step_appC9 {ops : Array Oper} {o : Oper} {a : Act} {K : Act → World → Prop} {Q : Exit → Act → World → Prop} {E : Prop} (T S : Nat) (hinfo : (Tryd.prog.info? T).map (fun i => (i.zero, i.size, i.bytes)) = some (some (.agg #[.string ⟨#[]⟩, .int .i64 0, .int .i64 0, .int .i64 0, .string ⟨#[]⟩]), 5, 56))
    (hund : Tryd.prog.underlying S = some (.slice T)) (hgd : o.guard = none) (s x : Operand)
    (ho : o.op = .call { callee := .builtin .append, args := #[s, x], argTypes := #[S, S] }) (B : Nat) (v : Value) (t : List Pc) (W : World) (p : Pc) (n1 n2 : ByteArray) (h1 : n1 = str p.media) (h2 : n2 = str p.body) (f1 f2 f3 : Int) (k1 : f1 = p.sp.1) (k2 : f2 = p.sp.2) (k3 : f3 = p.size)
    (hs : a.eval s = v) (hown : OwnC T B v t W) (g : Nat) (hx : a.eval x = .slice (some ⟨g, 0, none⟩) 1 1) (hg : g = W.heap.size) (hlen : t.length + 1 ≤ 1073741824) (hB : B ≤ W.heap.size)
    (h : ∀ v' w', OwnC T B v' (t ++ [p]) w' → Below B W w' → (∀ (W0 : World) k, OwnC T B v t W0 → W0.heap.size ≤ k → k < W.heap.size → w'.heap[k]? = W.heap[k]?) → K (a.put o.dst v') w') : if Region.wanted o (yielded ops a.tmps) = true then Oper.wp Tryd.prog o a (W.alloc (.cells #[.string n1, .int .i64 f1, .int .i64 f2, .int .i64 f3, .string n2] T)) K Q else E := by
  subst h1 h2 hg k1 k2 k3
  have hw : Region.wanted o (yielded ops a.tmps) = true := by simp [Region.wanted, hgd]
  rw [if_pos hw]
  obtain ⟨i0, hi, hz0, hz1, hz2⟩ := info_parts hinfo
  refine wp_append_own _ s x S ho B T i0 (.agg #[.string ⟨#[]⟩, .int .i64 0, .int .i64 0, .int .i64 0, .string ⟨#[]⟩]) 5 56 hund hi hz0 hz1 hz2 rfl (by decide) v t.length _ hs (World.ownsRow.alloc hown _) ⟨W.heap.size, 0, none⟩ 1 1 (encC1 p) hx rfl ?_ ?_ ?_ ?_ ?_ ?_
  · intro j u hj
    unfold encC1 at hj
    match j, hj with
    | 0, hj => simp at hj; subst hj; simp [Addr.add]
    | 1, hj => simp at hj; subst hj; simp [Addr.add]
    | 2, hj => simp at hj; subst hj; simp [Addr.add]
    | 3, hj => simp at hj; subst hj; simp [Addr.add]
    | 4, hj => simp at hj; subst hj; simp [Addr.add]
  · intro u hu
    unfold encC1 at hu
    simp at hu
    rcases hu with rfl | rfl | rfl | rfl | rfl <;> rfl
  · unfold maxLen; omega
  · omega
  · simp; omega
  · intro v' w' h1 h2 _
    refine h v' w' ?_ (((Below.refl B W).alloc hB _).grown h2 (by simp; omega) (fun k hk => (World.ownsRow.lt hown k hk).1)) ?_
    · unfold OwnC
      rw [encC_snoc, List.length_append]
      exact h1
    · intro W0 k h0 hk1 hk2
      rw [h2.block k (by simp; omega) (fun e => by have := (World.ownsRow.lt h0 k e.symm).2; omega)]
      exact heap_alloc_old W _ hk2

set_option maxRecDepth 100000 in
set_option maxHeartbeats 4000000 in
theorem rPieces_any (bd : List UInt8) (hbd : bd.length ≤ 1048576) (s : ByteArray) (hs : s.size ≤ 1048576) (w : World) :
    Calls Tryd.prog 5 #[.string (str bd), .string s] w fun e w' => ∃ lv, e = .returned (.tuple #[lv, .int .i64 (dpsR bd s.data.toList).2.1, .int .i64 (dpsR bd s.data.toList).2.2]) ∧ OwnC 46 w.heap.size lv (dpsR bd s.data.toList).1 w' ∧ Below w.heap.size w w' := by
  have hsl : s.data.toList.length = s.size := size_list s
  have HBd : Hid (∀ W, Calls Tryd.prog 12 #[.string (str bd)] W fun e w' => e = .returned (.bool (bndR bd)) ∧ Below (World.heap W).size W w') := fun W => by
    have := rIsMark_any (str bd) (by rw [str_size]; omega) W
    rw [str_list] at this
    exact this
  have HOp : Hid (⟨#[13, 10, 45, 45]⟩ ++ str bd ++ ⟨#[13, 10]⟩ = str (opB bd)) := (by unfold opB; rw [← add_str, ← add_str]; rfl : _ = _)
  have HCl : Hid (⟨#[13, 10, 45, 45]⟩ ++ str bd ++ ⟨#[45, 45]⟩ ++ ⟨#[13, 10]⟩ = str (clB bd)) := (by unfold clB; rw [← add_str, ← add_str, ← add_str]; rfl : _ = _)
  have hlo : (opB bd).length ≤ 4000000 := by unfold opB; simp; omega
  have hlc : (clB bd).length ≤ 4000000 := by unfold clB; simp; omega
  have hl0 : 0 < (opB bd).length := by unfold opB; simp
  obtain ⟨R, HR⟩ : ∃ R, Hid (R = dpsR bd s.data.toList) := ⟨_, rfl⟩
  have HRd : Hid (R = _) := HR.out.trans (by unfold dpsR; exact rfl)
  rw [← HR.out]
  clear HR
  have hzb : (str bd).size ≤ 1048576 := by rw [str_size]; exact hbd
  have hop : (str (opB bd)).data.toList = opB bd := str_list _
  have hcl : (str (clB bd)).data.toList = clB bd := str_list _
  have hzo : (str (opB bd)).size = (opB bd).length := str_size _
  have hzc : (str (clB bd)).size = (clB bd).length := str_size _
  generalize str (opB bd) = OP at *
  generalize str (clB bd) = CL at *
  generalize opB bd = op at *
  generalize clB bd = cl at *
  generalize str bd = BD at *
  generalize bndR bd = bb at *
  have HSt : Hid (∀ (a : Nat) W, a ≤ s.size → Calls Tryd.prog 13 #[.string s, .int .i64 a, .string OP] W fun e w' => e = .returned (.bool (Lib.hasPrefix (s.data.toList.drop a) op)) ∧ w' = W) := fun a W ha => by have := starts_any s OP (by omega) (by omega) a ha W; rw [hop] at this; exact this
  have HSl : Hid (∀ (a : Nat) W, a ≤ s.size → Calls Tryd.prog 13 #[.string s, .int .i64 a, .string CL] W fun e w' => e = .returned (.bool (Lib.hasPrefix (s.data.toList.drop a) cl)) ∧ w' = W) := fun a W ha => by have := starts_any s CL (by omega) (by omega) a ha W; rw [hcl] at this; exact this
  have HSe : Hid (∀ (a : Nat) W, a ≤ s.size → Calls Tryd.prog 13 #[.string s, .int .i64 a, .string ⟨#[13, 10]⟩] W fun e w' => e = .returned (.bool (Lib.hasPrefix (s.data.toList.drop a) [13, 10])) ∧ w' = W) := fun a W ha => starts_any s ⟨#[13, 10]⟩ (by omega) (by decide) a ha W
  have HCt : Hid (∀ (a : Nat) W, a ≤ s.size → Calls Tryd.prog 14 #[.string s, .int .i64 a, .string OP] W fun e w' => e = .returned (.bool (shrt (s.data.toList.drop a) op)) ∧ Below (World.heap W).size W w') := fun a W ha => by have := cut_any s OP (by omega) (by omega) a ha W; rw [hop] at this; exact this
  have HCz : Hid (∀ (a : Nat) W, a ≤ s.size → Calls Tryd.prog 14 #[.string s, .int .i64 a, .string CL] W fun e w' => e = .returned (.bool (shrt (s.data.toList.drop a) cl)) ∧ Below (World.heap W).size W w') := fun a W ha => by have := cut_any s CL (by omega) (by omega) a ha W; rw [hcl] at this; exact this
  have HCe : Hid (∀ (a : Nat) W, a ≤ s.size → Calls Tryd.prog 14 #[.string s, .int .i64 a, .string ⟨#[13, 10]⟩] W fun e w' => e = .returned (.bool (shrt (s.data.toList.drop a) [13, 10])) ∧ Below (World.heap W).size W w') := fun a W ha => cut_any s ⟨#[13, 10]⟩ (by omega) (by decide) a ha W
  have HL1 : Hid (∀ (a : Nat) W, a ≤ s.size → Calls Tryd.prog 15 #[.string s, .int .i64 a, .string ⟨#[67, 111, 110, 116, 101, 110, 116, 45, 84, 121, 112, 101]⟩] W fun e w' => e = .returned (.tuple #[.string (str (dlnR (s.data.toList.drop a) ctH).1), .int .i64 (if (dlnR (s.data.toList.drop a) ctH).2.2 = 0 then ((a + (dlnR (s.data.toList.drop a) ctH).2.1 : Nat) : Int) else 0), .int .i64 (dlnR (s.data.toList.drop a) ctH).2.2]) ∧ Below (World.heap W).size W w') := fun a W ha => dline_any s _ (str ctH) (by rfl) hs (by decide) (by decide) a ha W
  have HL2 : Hid (∀ (a : Nat) W, a ≤ s.size → Calls Tryd.prog 15 #[.string s, .int .i64 a, .string ⟨#[67, 111, 110, 116, 101, 110, 116, 45, 82, 97, 110, 103, 101]⟩] W fun e w' => e = .returned (.tuple #[.string (str (dlnR (s.data.toList.drop a) crH).1), .int .i64 (if (dlnR (s.data.toList.drop a) crH).2.2 = 0 then ((a + (dlnR (s.data.toList.drop a) crH).2.1 : Nat) : Int) else 0), .int .i64 (dlnR (s.data.toList.drop a) crH).2.2]) ∧ Below (World.heap W).size W w') := fun a W ha => dline_any s _ (str crH) (by rfl) hs (by decide) (by decide) a ha W
  have HTo : Hid (∀ (t : List UInt8) W, t.length ≤ 4000000 → Calls Tryd.prog 16 #[.string (str t)] W fun e w' => e = .returned (.tuple #[.agg #[.int .i64 (tolR t).1.1, .int .i64 (tolR t).1.2], .int .i64 (tolR t).2.1, .int .i64 (tolR t).2.2]) ∧ Below (World.heap W).size W w') := fun t W ht => by
    have := rTold_gr (str t) (by rw [str_size]; omega) W
    rw [str_list] at this
    exact this
  have HSL : Hid (s.data.toList.length = s.size) := hsl
  have HPx : Hid (∀ a, Lib.hasPrefix (s.data.toList.drop a) op = true → a ≤ s.size → a + op.length ≤ s.size) := fun a h1 h2 => by
    have := (List.isPrefixOf_iff_prefix.1 h1).length_le
    rw [List.length_drop, hsl] at this
    omega
  have HPy : Hid (∀ a, Lib.hasPrefix (s.data.toList.drop a) cl = true → a ≤ s.size → a + cl.length ≤ s.size) := fun a h1 h2 => by
    have := (List.isPrefixOf_iff_prefix.1 h1).length_le
    rw [List.length_drop, hsl] at this
    omega
  rw [hsl] at HRd
  clear hsl hop hcl
  generalize hll : s.data.toList = l at *
  have HLL : Hid (s.data.toList = l) := hll
  clear hll
  have k1 : (⟨#[13, 10, 45, 45]⟩ : ByteArray).size = 4 := rfl
  have k2 : (⟨#[13, 10]⟩ : ByteArray).size = 2 := rfl
  have k3 : (⟨#[45, 45]⟩ : ByteArray).size = 2 := rfl
  go_enter Tryd.func5, Tryd.ntmps5
  go_wp2_with fail
  refine (HBd.out _).mono ?_
  rintro e w1 ⟨rfl, hb1⟩
  have HB1 : Hid (Below w.heap.size w w1) := hb1
  clear hb1
  have hz1 : w.heap.size ≤ w1.heap.size := HB1.out.size
  cases bb with
  | false =>
    have HQ : Hid (R = _) := (by rw [HRd.out]; simp : R = ([], 0, 92))
    go_wp2
    go_ret3
    rw [HQ.out]
    exact ⟨_, rfl, ownC_empty _ _ hz1, HB1.out.alloc hz1 _⟩
  | true =>
    have HRx : Hid (R = dgo op cl l (s.size + 1) 0 []) := (by rw [HRd.out]; simp : R = _)
    obtain ⟨w2, hw2⟩ : ∃ w2, w2 = w1.alloc (.cells #[] 46) := ⟨_, rfl⟩
    have HB2 : Hid (Below w.heap.size w w2) := (by rw [hw2]; exact HB1.out.alloc hz1 _ : Below _ _ _)
    have HO2 : Hid (OwnC 46 w.heap.size (.slice (some ⟨w1.heap.size, 0, none⟩) 0 0) [] w2) := (by rw [hw2]; exact ownC_empty _ _ hz1 : OwnC _ _ _ _ _)
    generalize (⟨#[13, 10, 45, 45]⟩ : ByteArray) = A at *
    generalize (⟨#[45, 45]⟩ : ByteArray) = D at *
    have HCR : Hid (True) := trivial
    have hs1 : ¬ (9223372036854775807 < A.size + BD.size) := by omega
    have hs2 : ¬ (9223372036854775807 < A.size + BD.size + (⟨#[13, 10]⟩ : ByteArray).size) := by omega
    have hs3 : ¬ (9223372036854775807 < A.size + BD.size + D.size) := by omega
    have hs4 : ¬ (9223372036854775807 < A.size + BD.size + D.size + (⟨#[13, 10]⟩ : ByteArray).size) := by omega
    go_wp2_with fail
    rw [HOp.out, HCl.out, ← hw2]
    clear hw2 hs1 hs2 hs3 hs4 k1 k3 HBd HOp HCl HCR
    go_loopw [7, 8] (fun lv at_ wr => ∃ (a f : Nat) (acc : List Pc), a ≤ s.size ∧ s.size ≤ a + f ∧ acc.length ≤ a ∧ Hid (R = dgo op cl l (f + 1) a acc) ∧ at_ = .int .i64 (a : Int) ∧ Hid (OwnC 46 w.heap.size lv acc wr) ∧ Hid (Below w.heap.size w wr)) (fun _ at_ _ => s.size + 1 - (intOf at_).toNat)
    case atStart => exact ⟨0, s.size, [], by omega, by omega, by simp, HRx, by simp, HO2, HB2⟩
    case round =>
      obtain ⟨a, f, acc, hal, haf, hacc, HQ, rfl, HOw, HBl⟩ := hrel
      obtain ⟨av, cv, rfl⟩ := HOw.out.form
      have hq := HQ.out
      rw [dgo] at hq
      have HQ2 : Hid (R = _) := hq
      clear hq HQ HO2 HB2 HB1
      have hzr : w.heap.size ≤ wr.heap.size := HBl.out.size
      have HSt' := HSt.out a
      have HSl' := HSl.out a
      have HCt' := HCt.out a
      have HCz' := HCz.out a
      have HPa : Hid (Lib.hasPrefix (l.drop a) op = true → a + op.length ≤ s.size) := fun h => HPx.out a h hal
      have HPb : Hid (Lib.hasPrefix (l.drop a) cl = true → a + cl.length ≤ s.size) := fun h => HPy.out a h hal
      have HTt : Hid (∀ W, Calls _ _ _ W _) := fun W => HSt' W hal
      have HTl : Hid (∀ W, Calls _ _ _ W _) := fun W => HSl' W hal
      have HKt : Hid (∀ W, Calls _ _ _ W _) := fun W => HCt' W hal
      have HKl : Hid (∀ W, Calls _ _ _ W _) := fun W => HCz' W hal
      clear HSt' HSl' HCt' HCz'
      generalize Lib.hasPrefix (l.drop a) op = b1 at *
      generalize Lib.hasPrefix (l.drop a) cl = b2 at *
      generalize shrt (l.drop a) op = c1 at *
      generalize shrt (l.drop a) cl = c2 at *
      by_cases hz : 0 < acc.length
      · have hz' : (0 : Int) < (acc.length : Int) := by omega
        go_wp2_with fail
        refine (HTl.out _).mono ?_
        rintro e w3 ⟨rfl, hw3⟩
        rw [hw3]
        clear hw3
        cases b2 with
        | true =>
          have hcl2 := HPb.out rfl
          by_cases hlt : a + cl.length < s.size
          · have HQ : Hid (R = _) := (by rw [HQ2.out]; simp [hz, HSL.out, hlt] : R = ([], ((a + cl.length : Nat) : Int), 92))
            have HQ3 : Hid (R.2.1 = (a : Int) + (cl.length : Int)) := (by rw [HQ.out]; simp : _ = _)
            have HQ4 : Hid (R.1 = [] ∧ R.2.2 = 92) := (by rw [HQ.out]; exact ⟨rfl, rfl⟩ : _ ∧ _)
            have hlt' : (a : Int) + (CL.size : Int) < (s.size : Int) := by omega
            go_wp2
            go_ret3
            rw [HQ3.out, HQ4.out.1, HQ4.out.2]
            exact ⟨_, rfl, ownC_empty _ _ hzr, HBl.out.alloc hzr _⟩
          · have HQ : Hid (R = _) := (by rw [HQ2.out]; simp [hz, HSL.out, hlt] : R = (acc, 0, 0))
            have hlt' : ¬ (a : Int) + (CL.size : Int) < (s.size : Int) := by omega
            go_wp2
            go_ret3
            rw [HQ.out]
            exact ⟨_, rfl, HOw.out, HBl.out⟩
        | false =>
          go_wp2_with fail
          refine (HKt.out _).mono ?_
          rintro e w4 ⟨rfl, hb4⟩
          have HB4 : Hid (Below w.heap.size w w4) := HBl.out.trans (hb4.mono hzr)
          have HO4 : Hid (OwnC 46 w.heap.size (.slice av acc.length cv) acc w4) := HOw.out.below hb4
          have hz4 : w.heap.size ≤ w4.heap.size := HB4.out.size
          clear hb4 HBl HOw hzr
          cases c1 with
          | true =>
            have HQ : Hid (R = _) := (by rw [HQ2.out]; simp [HSL.out] : R = ([], (s.size : Int), 94))
            go_wp2
            go_ret3
            rw [HQ.out]
            exact ⟨_, rfl, ownC_empty _ _ hz4, HB4.out.alloc hz4 _⟩
          | false =>
            go_wp2_with fail
            refine (HKl.out _).mono ?_
            rintro e w5 ⟨rfl, hb5⟩
            have HB5 : Hid (Below w.heap.size w w5) := HB4.out.trans (hb5.mono hz4)
            have HO5 : Hid (OwnC 46 w.heap.size (.slice av acc.length cv) acc w5) := HO4.out.below hb5
            have hz5 : w.heap.size ≤ w5.heap.size := HB5.out.size
            clear hb5 HB4 HO4 hz4
            cases c2 with
            | true =>
              have HQ : Hid (R = _) := (by rw [HQ2.out]; simp [HSL.out, hz] : R = ([], (s.size : Int), 94))
              go_wp2
              go_ret3
              rw [HQ.out]
              exact ⟨_, rfl, ownC_empty _ _ hz5, HB5.out.alloc hz5 _⟩
            | false =>
              have HQ6 : Hid (R = if b1 = false then ([], (a : Int), 92) else if (dpcR (l.drop (a + op.length))).2.1 ≠ 0 then ([], ((a + op.length + (dpcR (l.drop (a + op.length))).2.2 : Nat) : Int), (dpcR (l.drop (a + op.length))).2.1) else dgo op cl l f (a + op.length + (dpcR (l.drop (a + op.length))).2.2) (acc ++ [(dpcR (l.drop (a + op.length))).1])) := (by have := HQ2.out; simpa using this : R = _)
              clear HQ2
              go_wp2_with fail
              refine (HTt.out _).mono ?_
              rintro e w6 ⟨rfl, hw6⟩
              rw [hw6]
              clear hw6
              cases b1 with
              | false =>
                have HQ : Hid (R = _) := (by rw [HQ6.out]; simp : R = ([], (a : Int), 92))
                go_wp2
                go_ret3
                rw [HQ.out]
                exact ⟨_, rfl, ownC_empty _ _ hz5, HB5.out.alloc hz5 _⟩
              | true =>
                have hp1 := HPa.out rfl
                obtain ⟨a1, ha1⟩ : ∃ a1, a1 = a + op.length := ⟨_, rfl⟩
                have HE1 : Hid ((a : Int) + (op.length : Int) = (a1 : Int)) := (by omega : (a : Int) + (op.length : Int) = (a1 : Int))
                have HQ7 : Hid (R = if (dpcR (l.drop a1)).2.1 ≠ 0 then ([], ((a1 + (dpcR (l.drop a1)).2.2 : Nat) : Int), (dpcR (l.drop a1)).2.1) else dgo op cl l f (a1 + (dpcR (l.drop a1)).2.2) (acc ++ [(dpcR (l.drop a1)).1])) := (by rw [HQ6.out, ← ha1]; simp : R = _)
                have h1s : a1 ≤ s.size := by omega
                have h1a : a < a1 := by omega
                obtain ⟨Z, HZ⟩ : ∃ Z, Hid (Z = dpcR (l.drop a1)) := ⟨_, rfl⟩
                rw [← HZ.out] at HQ7
                have HZd : Hid (Z = _) := HZ.out.trans (by unfold dpcR; exact rfl)
                have hrl : (l.drop a1).length = s.size - a1 := by rw [List.length_drop, HSL.out]
                have f1 := dlnR_far (l.drop a1) ctH
                have ok1 := dlnR_ok (l.drop a1) ctH
                have HLa : Hid (∀ W, Calls _ _ _ W _) := fun W => HL1.out a1 W h1s
                rw [hrl] at f1
                simp only [List.drop_drop, hrl] at HZd
                clear HZ HQ6 ha1 HPa HPb HTt HTl HKt HKl hrl
                generalize dlnR (l.drop a1) ctH = L1 at *
                obtain ⟨v1, k1, e1⟩ := L1
                dsimp only at f1 ok1 HZd HLa
                go_wp2_with fail
                rw [HE1.out]
                refine (HLa.out _).mono ?_
                rintro e w7 ⟨rfl, hb7⟩
                have HB7 : Hid (Below w.heap.size w w7) := HB5.out.trans (hb7.mono hz5)
                have HO7 : Hid (OwnC 46 w.heap.size (.slice av acc.length cv) acc w7) := HO5.out.below hb7
                have hz7 : w.heap.size ≤ w7.heap.size := HB7.out.size
                clear hb7 HB5 HO5 hz5 HLa HE1 hp1
                have HER : Hid (∀ (p : Nat) (x : Int), x ≠ 0 → Z = (noPc, x, p) → R.1 = [] ∧ R.2.1 = ((a1 + p : Nat) : Int) ∧ R.2.2 = x) := (fun p x hx hZ => by rw [HQ7.out, hZ]; simp [hx] : ∀ (p : Nat) (x : Int), x ≠ 0 → Z = (noPc, x, p) → R.1 = [] ∧ R.2.1 = ((a1 + p : Nat) : Int) ∧ R.2.2 = x)
                rcases ok1 with rfl | rfl | rfl
                · obtain ⟨a2, ha2⟩ : ∃ a2, a2 = a1 + k1 := ⟨_, rfl⟩
                  have h2s : a2 ≤ s.size := by omega
                  rw [if_pos rfl, ← ha2]
                  rw [← ha2] at HZd
                  have HA2 : Hid (a2 = a1 + k1) := ha2
                  clear ha2
                  have hrl2 : (l.drop a2).length = s.size - a2 := by rw [List.length_drop, HSL.out]
                  have f2 := dlnR_far (l.drop a2) crH
                  have ok2 := dlnR_ok (l.drop a2) crH
                  have ln2 := dlnR_len (l.drop a2) crH
                  have HLb : Hid (∀ W, Calls _ _ _ W _) := fun W => HL2.out a2 W h2s
                  rw [hrl2] at f2 ln2
                  generalize dlnR (l.drop a2) crH = L2 at *
                  obtain ⟨v2, k2, e2⟩ := L2
                  dsimp only at f2 ok2 ln2 HZd HLb
                  clear hrl2
                  go_wp2_with fail
                  refine (HLb.out _).mono ?_
                  rintro e w8 ⟨rfl, hb8⟩
                  have HB8 : Hid (Below w.heap.size w w8) := HB7.out.trans (hb8.mono hz7)
                  have HO8 : Hid (OwnC 46 w.heap.size (.slice av acc.length cv) acc w8) := HO7.out.below hb8
                  have hz8 : w.heap.size ≤ w8.heap.size := HB8.out.size
                  clear hb8 HB7 HO7 hz7 HLb
                  rcases ok2 with rfl | rfl | rfl
                  · obtain ⟨a3, ha3⟩ : ∃ a3, a3 = a2 + k2 := ⟨_, rfl⟩
                    have h3s : a3 ≤ s.size := by have := HA2.out; omega
                    rw [if_pos rfl, ← ha3]
                    have hA3 : a1 + (k1 + k2) = a3 := by have := HA2.out; omega
                    have HA3 : Hid (a1 + (k1 + k2) = a3) := hA3
                    have HZe : Hid (Z = if (tolR v2).2.2 ≠ 0 ∨ (tolR v2).1 = (0, 0) then (noPc, 93, k1) else if shrt (l.drop a3) [13, 10] = true then (noPc, 94, s.size - a1) else if Lib.hasPrefix (l.drop a3) [13, 10] = false then (noPc, 93, k1 + k2) else if ((s.size - a1 - (k1 + k2 + 2) : Nat) : Int) < (tolR v2).1.2 - (tolR v2).1.1 then (noPc, 94, s.size - a1) else (⟨v1, (tolR v2).1, (tolR v2).2.1, (l.drop (a3 + 2)).take ((tolR v2).1.2 - (tolR v2).1.1).toNat⟩, 0, k1 + k2 + 2 + ((tolR v2).1.2 - (tolR v2).1.1).toNat)) := (by
                      have := HZd.out
                      rw [hA3, show a1 + (k1 + k2 + 2) = a3 + 2 by omega] at this
                      rw [if_neg (by decide), if_neg (by simp), if_neg (by decide), if_neg (by simp)] at this
                      exact this : Z = _)
                    have hbd := tolR_bd v2
                    have HTx : Hid (∀ W, Calls _ _ _ W _) := fun W => HTo.out v2 W (by omega)
                    have HC3 : Hid (∀ W, Calls _ _ _ W _) := fun W => HCe.out a3 W h3s
                    have HS3 : Hid (∀ W, Calls _ _ _ W _) := fun W => HSe.out a3 W h3s
                    have HP3 : Hid (Lib.hasPrefix (l.drop a3) [13, 10] = true → a3 + 2 ≤ s.size) := fun h1 => by
                      have := (List.isPrefixOf_iff_prefix.1 h1).length_le
                      rw [List.length_drop, HSL.out] at this
                      simp at this
                      omega
                    have HEx : Hid (∀ n, s.extract (a3 + 2) (a3 + 2 + n) = str ((l.drop (a3 + 2)).take n)) := (fun n => by rw [ext_take9, HLL.out] : ∀ n, _)
                    clear HZd ha3 hA3
                    generalize tolR v2 = X at *
                    obtain ⟨⟨xf, xt⟩, xz, xe⟩ := X
                    dsimp only at hbd HZe HTx
                    generalize shrt (l.drop a3) [13, 10] = c3 at *
                    generalize Lib.hasPrefix (l.drop a3) [13, 10] = c4 at *
                    go_wp2_with fail
                    refine (HTx.out _).mono ?_
                    rintro e w9 ⟨rfl, hb9⟩
                    have HB9 : Hid (Below w.heap.size w w9) := HB8.out.trans (hb9.mono hz8)
                    have HO9 : Hid (OwnC 46 w.heap.size (.slice av acc.length cv) acc w9) := HO8.out.below hb9
                    have hz9 : w.heap.size ≤ w9.heap.size := HB9.out.size
                    clear hb9 HB8 HO8 hz8 HTx
                    obtain ⟨w10, hw10⟩ : ∃ w10, w10 = w9.alloc (.cells #[.int .i64 xf, .int .i64 xt] 42) := ⟨_, rfl⟩
                    have hb10 : Below w9.heap.size w9 w10 := by rw [hw10]; exact (Below.refl _ w9).alloc (Nat.le_refl _) _
                    have HB10 : Hid (Below w.heap.size w w10) := HB9.out.trans (hb10.mono hz9)
                    have HO10 : Hid (OwnC 46 w.heap.size (.slice av acc.length cv) acc w10) := HO9.out.below hb10
                    have HP10 : Hid (w10.heap[w9.heap.size]? = some (.cells #[.int .i64 xf, .int .i64 xt] 42 (0, 0))) := (by rw [hw10]; exact heap_alloc_new w9 _ : _ = _)
                    have HS10 : Hid (w9.heap.size + 1 = w10.heap.size) := (by rw [hw10]; simp : _ = _)
                    have HZ10 : Hid (w.heap.size ≤ w10.heap.size) := HB10.out.size
                    have HO9k : Hid (OwnC 46 w.heap.size (.slice av acc.length cv) acc w9) := HO9
                    clear hb10 HB9 HO9
                    by_cases hxe : xe = 0
                    · subst hxe
                      by_cases h00 : (xf, xt) = (0, 0)
                      · have e0 : xf = 0 ∧ xt = 0 := by simpa using h00
                        obtain ⟨rfl, rfl⟩ := e0
                        have heq : ∀ W, (binOp .eql 42 (.agg #[.int .i64 0, .int .i64 0]) (.agg #[.int .i64 0, .int .i64 0])).run Tryd.prog W = .ok (.bool true) W := fun W => by rw [eqNr]; simp
                        obtain ⟨r1, r2, r3⟩ := HER.out k1 93 (by decide) (by rw [HZe.out]; simp)
                        have HRr : Hid (R.1 = [] ∧ R.2.1 = (a2 : Int) ∧ R.2.2 = 93) := ⟨r1, by rw [r2, HA2.out], r3⟩
                        clear r1 r2 r3
                        go_wp2
                        rw [← hw10, HS10.out]
                        go_ret3
                        rw [HRr.out.1, HRr.out.2.1, HRr.out.2.2]
                        exact ⟨_, rfl, ownC_empty _ _ HZ10.out, HB10.out.alloc HZ10.out _⟩
                      · have hbd2 : 0 ≤ xf ∧ xf < xt ∧ xt ≤ 4611686018427387905 := hbd.resolve_left h00
                        have heq : ∀ W, (binOp .eql 42 (.agg #[.int .i64 xf, .int .i64 xt]) (.agg #[.int .i64 0, .int .i64 0])).run Tryd.prog W = .ok (.bool false) W := fun W => by
                          rw [eqNr]
                          have : (xt == 0) = false := by simp; omega
                          rw [this, Bool.and_false]
                        have HZf : Hid (Z = if c3 = true then (noPc, 94, s.size - a1) else if c4 = false then (noPc, 93, k1 + k2) else if ((s.size - a1 - (k1 + k2 + 2) : Nat) : Int) < xt - xf then (noPc, 94, s.size - a1) else (⟨v1, (xf, xt), xz, (l.drop (a3 + 2)).take (xt - xf).toNat⟩, 0, k1 + k2 + 2 + (xt - xf).toNat)) := (by rw [HZe.out, if_neg (by simpa using h00)] : Z = _)
                        clear HZe h00 hbd
                        go_wp2_with fail
                        rw [← hw10]
                        clear hw10
                        refine (HC3.out _).mono ?_
                        rintro e w11 ⟨rfl, hb11⟩
                        have HB11 : Hid (Below w.heap.size w w11) := HB10.out.trans (hb11.mono HZ10.out)
                        have HO11 : Hid (OwnC 46 w.heap.size (.slice av acc.length cv) acc w11) := HO10.out.below hb11
                        have HP11 : Hid (w11.heap[w9.heap.size]? = some (.cells #[.int .i64 xf, .int .i64 xt] 42 (0, 0))) := (by rw [hb11.block _ (Array.getElem?_eq_some_iff.1 HP10.out).1]; exact HP10.out : _ = _)
                        have hz11 : w.heap.size ≤ w11.heap.size := HB11.out.size
                        clear hb11 HB10 HO10 HP10 HZ10
                        obtain ⟨q0, q1⟩ := cells2 HP11.out
                        cases c3 with
                        | true =>
                          obtain ⟨r1, r2, r3⟩ := HER.out (s.size - a1) 94 (by decide) (by rw [HZf.out]; simp)
                          have HRr : Hid (R.1 = [] ∧ R.2.1 = (s.size : Int) ∧ R.2.2 = 94) := ⟨r1, by rw [r2]; omega, r3⟩
                          clear r1 r2 r3
                          go_wp2
                          go_ret3
                          rw [HRr.out.1, HRr.out.2.1, HRr.out.2.2]
                          exact ⟨_, rfl, ownC_empty _ _ hz11, HB11.out.alloc hz11 _⟩
                        | false =>
                          go_wp2_with fail
                          refine (HS3.out _).mono ?_
                          rintro e w12 ⟨rfl, hw12⟩
                          rw [hw12]
                          clear hw12
                          cases c4 with
                          | false =>
                            obtain ⟨r1, r2, r3⟩ := HER.out (k1 + k2) 93 (by decide) (by rw [HZf.out]; simp)
                            have HRr : Hid (R.1 = [] ∧ R.2.1 = (a3 : Int) ∧ R.2.2 = 93) := ⟨r1, by rw [r2, HA3.out], r3⟩
                            clear r1 r2 r3
                            go_wp2
                            go_ret3
                            rw [HRr.out.1, HRr.out.2.1, HRr.out.2.2]
                            exact ⟨_, rfl, ownC_empty _ _ hz11, HB11.out.alloc hz11 _⟩
                          | true =>
                            have h5s := HP3.out rfl
                            obtain ⟨nN, hnN⟩ : ∃ nN : Nat, xt - xf = (nN : Int) := ⟨(xt - xf).toNat, by omega⟩
                            have HNN : Hid ((xt - xf).toNat = nN) := (by rw [hnN]; rfl : _ = _)
                            have hwn : IntKind.i64.wrap (nN : Int) = (nN : Int) := by rw [IntKind.wrap_i64]; omega
                            have hnb : nN ≤ 4611686018427387905 := by omega
                            have hw18 : IntKind.i64.wrap ((s.size : Int) - ((a3 : Int) + 2)) = (s.size : Int) - ((a3 : Int) + 2) := by rw [IntKind.wrap_i64]; omega
                            have hlen : s.size - a1 - (k1 + k2 + 2) = s.size - (a3 + 2) := by have := HA3.out; omega
                            have HZg : Hid (Z = if ((s.size - (a3 + 2) : Nat) : Int) < (nN : Int) then (noPc, 94, s.size - a1) else (⟨v1, (xf, xt), xz, (l.drop (a3 + 2)).take nN⟩, 0, k1 + k2 + 2 + nN)) := (by rw [HZf.out, if_neg (by simp), if_neg (by simp), hlen, HNN.out, hnN] : Z = _)
                            clear HZf hlen
                            by_cases h5 : ((s.size - (a3 + 2) : Nat) : Int) < (nN : Int)
                            · have hd : decide ((s.size : Int) - ((a3 : Int) + 2) < (nN : Int)) = true := decide_eq_true (by omega)
                              obtain ⟨r1, r2, r3⟩ := HER.out (s.size - a1) 94 (by decide) (by rw [HZg.out, if_pos h5])
                              have HRr : Hid (R.1 = [] ∧ R.2.1 = (s.size : Int) ∧ R.2.2 = 94) := ⟨r1, by rw [r2]; omega, r3⟩
                              clear r1 r2 r3 h5
                              go_wp2
                              go_ret3
                              rw [HRr.out.1, HRr.out.2.1, HRr.out.2.2]
                              exact ⟨_, rfl, ownC_empty _ _ hz11, HB11.out.alloc hz11 _⟩
                            · have hd : decide ((s.size : Int) - ((a3 : Int) + 2) < (nN : Int)) = false := decide_eq_false (by omega)
                              have hx0 := HEx.out nN
                              obtain ⟨BY, HBY⟩ : ∃ BY, Hid (BY = s.extract (a3 + 2) (a3 + 2 + nN)) := ⟨_, rfl⟩
                              have hbx : s.extract (a3 + 2) (a3 + 2 + nN) = BY := HBY.out.symm
                              obtain ⟨pp, HPP⟩ : ∃ pp : Pc, Hid (pp = ⟨v1, (xf, xt), xz, (l.drop (a3 + 2)).take nN⟩) := ⟨_, rfl⟩
                              have HV : Hid (str v1 = str pp.media ∧ xf = pp.sp.1 ∧ xt = pp.sp.2 ∧ xz = pp.size ∧ BY = str pp.body) := (by rw [HPP.out, HBY.out, hx0]; exact ⟨rfl, rfl, rfl, rfl, rfl⟩ : _ ∧ _)
                              have HRn : Hid (R = dgo op cl l f (a3 + 2 + nN) (acc ++ [pp])) := (by
                                rw [HQ7.out, HZg.out, if_neg h5, HPP.out, show a3 + 2 + nN = a1 + (k1 + k2 + 2 + nN) by have := HA3.out; omega]
                                simp : R = _)
                              have hle5 : a3 + 2 + nN ≤ s.size := by omega
                              have ha13 : a < a3 := by have := HA3.out; omega
                              have hws : (a3 : Int) + 2 + xt - xf = (a3 : Int) + 2 + (nN : Int) := by omega
                              have hwx : IntKind.i64.wrap ((a3 : Int) + 2 + xt) = (a3 : Int) + 2 + xt := by rw [IntKind.wrap_i64]; omega
                              have hwa : IntKind.i64.wrap ((a3 : Int) + 2 + (nN : Int)) = (a3 : Int) + 2 + (nN : Int) := by rw [IntKind.wrap_i64]; omega
                              have hta : ((a3 : Int) + 2 + (nN : Int)).toNat = a3 + 2 + nN := by omega
                              have htb : ((a3 : Int) + 2).toNat = a3 + 2 := by omega
                              have hle : (a3 : Int) + 2 + (nN : Int) ≤ (s.size : Int) := by omega
                              have hle2 : (a3 : Int) + 2 ≤ (a3 : Int) + 2 + (nN : Int) := by omega
                              have ha30 : (0 : Int) ≤ (a3 : Int) + 2 := by omega
                              have hal5 : acc.length + 1 ≤ 1073741824 := by omega
                              have HZ11 : Hid (w.heap.size ≤ w11.drew.heap.size) := hz11
                              have HO12 : Hid (OwnC 46 w.heap.size (.slice av acc.length cv) acc w11.drew) := HO11.out.below (bel_drewN (Below.refl _ _) 1)
                              have HB12 : Hid (Below w.heap.size w w11.drew) := bel_drewN HB11.out 1
                              clear h5 hx0 HZg HER HQ7
                              go_wp2_with fail
                              go_region_law (refine step_appC9 46 26 infoC9r Tryd.underlying26 rfl (.tmp 157) (.tmp 172) rfl w.heap.size _ acc _ pp _ _ HV.out.1 HV.out.2.2.2.2 _ _ _ HV.out.2.1 HV.out.2.2.1 HV.out.2.2.2.1 (by simp [Act.eval, Act.put]) HO12.out _ (by simp [Act.eval, Act.put]) rfl hal5 HZ11.out ?_; intro v13 w13 hO13 hb13 hk13; obtain ⟨q3, q4⟩ := cells2 ((hk13 w9 w9.heap.size HO9k.out (Nat.le_refl _) (Array.getElem?_eq_some_iff.1 HP11.out).1).trans HP11.out))
                              all_goals
                                have HO13 : Hid (OwnC 46 w.heap.size v13 (acc ++ [pp]) w13) := hO13
                                have HB13 : Hid (Below w.heap.size w w13) := HB12.out.trans hb13
                                obtain ⟨f', rfl⟩ : ∃ f', f = f' + 1 := ⟨f - 1, by omega⟩
                                have HF : Hid (∃ (a' f : Nat) (acc : List Pc), a' ≤ s.size ∧ s.size ≤ a' + f ∧ acc.length ≤ a' ∧ Hid (R = dgo op cl l (f + 1) a' acc) ∧ Value.int .i64 ((a3 : Int) + 2 + (nN : Int)) = .int .i64 (a' : Int) ∧ Hid (OwnC 46 w.heap.size v13 acc w13) ∧ Hid (Below w.heap.size w w13)) := (⟨a3 + 2 + nN, f', acc ++ [pp], by omega, by omega, by rw [List.length_append]; simp; omega, HRn, by go_num, HO13, HB13⟩ : ∃ _, _)
                                have HM : Hid (s.size + 1 - (intOf (Value.int .i64 ((a3 : Int) + 2 + (nN : Int)))).toNat < s.size + 1 - (intOf (Value.int .i64 (a : Int))).toNat) := (by simp [intOf]; omega : _ < _)
                                clear hO13 hb13 hk13 HB11 HO11 HO12 HB12 q0 q1 HP11 HO9k HRn HO13 HB13
                                first
                                | exact ⟨HF.out, HM.out⟩
                                | (go_wp2
                                   go_roundw
                                   case rel => exact HF.out
                                   case measure => exact HM.out)
                    · obtain ⟨r1, r2, r3⟩ := HER.out k1 93 (by decide) (by rw [HZe.out]; simp [hxe])
                      have HRr : Hid (R.1 = [] ∧ R.2.1 = (a2 : Int) ∧ R.2.2 = 93) := ⟨r1, by rw [r2, HA2.out], r3⟩
                      clear r1 r2 r3
                      go_wp2
                      rw [← hw10, HS10.out]
                      go_ret3
                      rw [HRr.out.1, HRr.out.2.1, HRr.out.2.2]
                      exact ⟨_, rfl, ownC_empty _ _ HZ10.out, HB10.out.alloc HZ10.out _⟩
                  · obtain ⟨r1, r2, r3⟩ := HER.out k1 93 (by decide) (by rw [HZd.out]; simp)
                    have HRr : Hid (R.1 = [] ∧ R.2.1 = (a2 : Int) ∧ R.2.2 = 93) := ⟨r1, by rw [r2, HA2.out], r3⟩
                    clear r1 r2 r3
                    go_wp2
                    go_ret3
                    rw [HRr.out.1, HRr.out.2.1, HRr.out.2.2]
                    exact ⟨_, rfl, ownC_empty _ _ hz8, HB8.out.alloc hz8 _⟩
                  · obtain ⟨r1, r2, r3⟩ := HER.out (s.size - a1) 94 (by decide) (by rw [HZd.out]; simp)
                    have HRr : Hid (R.1 = [] ∧ R.2.1 = (s.size : Int) ∧ R.2.2 = 94) := ⟨r1, by rw [r2]; omega, r3⟩
                    clear r1 r2 r3
                    go_wp2
                    go_ret3
                    rw [HRr.out.1, HRr.out.2.1, HRr.out.2.2]
                    exact ⟨_, rfl, ownC_empty _ _ hz8, HB8.out.alloc hz8 _⟩
                · obtain ⟨r1, r2, r3⟩ := HER.out 0 93 (by decide) (by rw [HZd.out]; simp)
                  have HRr : Hid (R.1 = [] ∧ R.2.1 = (a1 : Int) ∧ R.2.2 = 93) := ⟨r1, r2, r3⟩
                  clear r1 r2 r3
                  go_wp2
                  go_ret3
                  rw [HRr.out.1, HRr.out.2.1, HRr.out.2.2]
                  exact ⟨_, rfl, ownC_empty _ _ hz7, HB7.out.alloc hz7 _⟩
                · obtain ⟨r1, r2, r3⟩ := HER.out (s.size - a1) 94 (by decide) (by rw [HZd.out]; simp)
                  have HRr : Hid (R.1 = [] ∧ R.2.1 = (s.size : Int) ∧ R.2.2 = 94) := ⟨r1, by rw [r2]; omega, r3⟩
                  clear r1 r2 r3
                  go_wp2
                  go_ret3
                  rw [HRr.out.1, HRr.out.2.1, HRr.out.2.2]
                  exact ⟨_, rfl, ownC_empty _ _ hz7, HB7.out.alloc hz7 _⟩
      · have hz' : ¬ (0 : Int) < (acc.length : Int) := by omega
        go_wp2_with fail
        refine (HKt.out _).mono ?_
        rintro e w5 ⟨rfl, hb5⟩
        have HB5 : Hid (Below w.heap.size w w5) := HBl.out.trans (hb5.mono hzr)
        have HO5 : Hid (OwnC 46 w.heap.size (.slice av acc.length cv) acc w5) := HOw.out.below hb5
        have hz5 : w.heap.size ≤ w5.heap.size := HB5.out.size
        clear hb5 HBl HOw hzr
        cases c1 with
        | true =>
          have HQ : Hid (R = _) := (by rw [HQ2.out]; simp [HSL.out, hz] : R = ([], (s.size : Int), 94))
          go_wp2
          go_ret3
          rw [HQ.out]
          exact ⟨_, rfl, ownC_empty _ _ hz5, HB5.out.alloc hz5 _⟩
        | false =>
          have HQ6 : Hid (R = if b1 = false then ([], (a : Int), 92) else if (dpcR (l.drop (a + op.length))).2.1 ≠ 0 then ([], ((a + op.length + (dpcR (l.drop (a + op.length))).2.2 : Nat) : Int), (dpcR (l.drop (a + op.length))).2.1) else dgo op cl l f (a + op.length + (dpcR (l.drop (a + op.length))).2.2) (acc ++ [(dpcR (l.drop (a + op.length))).1])) := (by have := HQ2.out; simpa [hz] using this : R = _)
          clear HQ2
          go_wp2_with fail
          refine (HTt.out _).mono ?_
          rintro e w6 ⟨rfl, hw6⟩
          rw [hw6]
          clear hw6
          cases b1 with
          | false =>
            have HQ : Hid (R = _) := (by rw [HQ6.out]; simp : R = ([], (a : Int), 92))
            go_wp2
            go_ret3
            rw [HQ.out]
            exact ⟨_, rfl, ownC_empty _ _ hz5, HB5.out.alloc hz5 _⟩
          | true =>
            have hp1 := HPa.out rfl
            obtain ⟨a1, ha1⟩ : ∃ a1, a1 = a + op.length := ⟨_, rfl⟩
            have HE1 : Hid ((a : Int) + (op.length : Int) = (a1 : Int)) := (by omega : (a : Int) + (op.length : Int) = (a1 : Int))
            have HQ7 : Hid (R = if (dpcR (l.drop a1)).2.1 ≠ 0 then ([], ((a1 + (dpcR (l.drop a1)).2.2 : Nat) : Int), (dpcR (l.drop a1)).2.1) else dgo op cl l f (a1 + (dpcR (l.drop a1)).2.2) (acc ++ [(dpcR (l.drop a1)).1])) := (by rw [HQ6.out, ← ha1]; simp : R = _)
            have h1s : a1 ≤ s.size := by omega
            have h1a : a < a1 := by omega
            obtain ⟨Z, HZ⟩ : ∃ Z, Hid (Z = dpcR (l.drop a1)) := ⟨_, rfl⟩
            rw [← HZ.out] at HQ7
            have HZd : Hid (Z = _) := HZ.out.trans (by unfold dpcR; exact rfl)
            have hrl : (l.drop a1).length = s.size - a1 := by rw [List.length_drop, HSL.out]
            have f1 := dlnR_far (l.drop a1) ctH
            have ok1 := dlnR_ok (l.drop a1) ctH
            have HLa : Hid (∀ W, Calls _ _ _ W _) := fun W => HL1.out a1 W h1s
            rw [hrl] at f1
            simp only [List.drop_drop, hrl] at HZd
            clear HZ HQ6 ha1 HPa HPb HTt HTl HKt HKl hrl
            generalize dlnR (l.drop a1) ctH = L1 at *
            obtain ⟨v1, k1, e1⟩ := L1
            dsimp only at f1 ok1 HZd HLa
            go_wp2_with fail
            rw [HE1.out]
            refine (HLa.out _).mono ?_
            rintro e w7 ⟨rfl, hb7⟩
            have HB7 : Hid (Below w.heap.size w w7) := HB5.out.trans (hb7.mono hz5)
            have HO7 : Hid (OwnC 46 w.heap.size (.slice av acc.length cv) acc w7) := HO5.out.below hb7
            have hz7 : w.heap.size ≤ w7.heap.size := HB7.out.size
            clear hb7 HB5 HO5 hz5 HLa HE1 hp1
            have HER : Hid (∀ (p : Nat) (x : Int), x ≠ 0 → Z = (noPc, x, p) → R.1 = [] ∧ R.2.1 = ((a1 + p : Nat) : Int) ∧ R.2.2 = x) := (fun p x hx hZ => by rw [HQ7.out, hZ]; simp [hx] : ∀ (p : Nat) (x : Int), x ≠ 0 → Z = (noPc, x, p) → R.1 = [] ∧ R.2.1 = ((a1 + p : Nat) : Int) ∧ R.2.2 = x)
            rcases ok1 with rfl | rfl | rfl
            · obtain ⟨a2, ha2⟩ : ∃ a2, a2 = a1 + k1 := ⟨_, rfl⟩
              have h2s : a2 ≤ s.size := by omega
              rw [if_pos rfl, ← ha2]
              rw [← ha2] at HZd
              have HA2 : Hid (a2 = a1 + k1) := ha2
              clear ha2
              have hrl2 : (l.drop a2).length = s.size - a2 := by rw [List.length_drop, HSL.out]
              have f2 := dlnR_far (l.drop a2) crH
              have ok2 := dlnR_ok (l.drop a2) crH
              have ln2 := dlnR_len (l.drop a2) crH
              have HLb : Hid (∀ W, Calls _ _ _ W _) := fun W => HL2.out a2 W h2s
              rw [hrl2] at f2 ln2
              generalize dlnR (l.drop a2) crH = L2 at *
              obtain ⟨v2, k2, e2⟩ := L2
              dsimp only at f2 ok2 ln2 HZd HLb
              clear hrl2
              go_wp2_with fail
              refine (HLb.out _).mono ?_
              rintro e w8 ⟨rfl, hb8⟩
              have HB8 : Hid (Below w.heap.size w w8) := HB7.out.trans (hb8.mono hz7)
              have HO8 : Hid (OwnC 46 w.heap.size (.slice av acc.length cv) acc w8) := HO7.out.below hb8
              have hz8 : w.heap.size ≤ w8.heap.size := HB8.out.size
              clear hb8 HB7 HO7 hz7 HLb
              rcases ok2 with rfl | rfl | rfl
              · obtain ⟨a3, ha3⟩ : ∃ a3, a3 = a2 + k2 := ⟨_, rfl⟩
                have h3s : a3 ≤ s.size := by have := HA2.out; omega
                rw [if_pos rfl, ← ha3]
                have hA3 : a1 + (k1 + k2) = a3 := by have := HA2.out; omega
                have HA3 : Hid (a1 + (k1 + k2) = a3) := hA3
                have HZe : Hid (Z = if (tolR v2).2.2 ≠ 0 ∨ (tolR v2).1 = (0, 0) then (noPc, 93, k1) else if shrt (l.drop a3) [13, 10] = true then (noPc, 94, s.size - a1) else if Lib.hasPrefix (l.drop a3) [13, 10] = false then (noPc, 93, k1 + k2) else if ((s.size - a1 - (k1 + k2 + 2) : Nat) : Int) < (tolR v2).1.2 - (tolR v2).1.1 then (noPc, 94, s.size - a1) else (⟨v1, (tolR v2).1, (tolR v2).2.1, (l.drop (a3 + 2)).take ((tolR v2).1.2 - (tolR v2).1.1).toNat⟩, 0, k1 + k2 + 2 + ((tolR v2).1.2 - (tolR v2).1.1).toNat)) := (by
                  have := HZd.out
                  rw [hA3, show a1 + (k1 + k2 + 2) = a3 + 2 by omega] at this
                  rw [if_neg (by decide), if_neg (by simp), if_neg (by decide), if_neg (by simp)] at this
                  exact this : Z = _)
                have hbd := tolR_bd v2
                have HTx : Hid (∀ W, Calls _ _ _ W _) := fun W => HTo.out v2 W (by omega)
                have HC3 : Hid (∀ W, Calls _ _ _ W _) := fun W => HCe.out a3 W h3s
                have HS3 : Hid (∀ W, Calls _ _ _ W _) := fun W => HSe.out a3 W h3s
                have HP3 : Hid (Lib.hasPrefix (l.drop a3) [13, 10] = true → a3 + 2 ≤ s.size) := fun h1 => by
                  have := (List.isPrefixOf_iff_prefix.1 h1).length_le
                  rw [List.length_drop, HSL.out] at this
                  simp at this
                  omega
                have HEx : Hid (∀ n, s.extract (a3 + 2) (a3 + 2 + n) = str ((l.drop (a3 + 2)).take n)) := (fun n => by rw [ext_take9, HLL.out] : ∀ n, _)
                clear HZd ha3 hA3
                generalize tolR v2 = X at *
                obtain ⟨⟨xf, xt⟩, xz, xe⟩ := X
                dsimp only at hbd HZe HTx
                generalize shrt (l.drop a3) [13, 10] = c3 at *
                generalize Lib.hasPrefix (l.drop a3) [13, 10] = c4 at *
                go_wp2_with fail
                refine (HTx.out _).mono ?_
                rintro e w9 ⟨rfl, hb9⟩
                have HB9 : Hid (Below w.heap.size w w9) := HB8.out.trans (hb9.mono hz8)
                have HO9 : Hid (OwnC 46 w.heap.size (.slice av acc.length cv) acc w9) := HO8.out.below hb9
                have hz9 : w.heap.size ≤ w9.heap.size := HB9.out.size
                clear hb9 HB8 HO8 hz8 HTx
                obtain ⟨w10, hw10⟩ : ∃ w10, w10 = w9.alloc (.cells #[.int .i64 xf, .int .i64 xt] 42) := ⟨_, rfl⟩
                have hb10 : Below w9.heap.size w9 w10 := by rw [hw10]; exact (Below.refl _ w9).alloc (Nat.le_refl _) _
                have HB10 : Hid (Below w.heap.size w w10) := HB9.out.trans (hb10.mono hz9)
                have HO10 : Hid (OwnC 46 w.heap.size (.slice av acc.length cv) acc w10) := HO9.out.below hb10
                have HP10 : Hid (w10.heap[w9.heap.size]? = some (.cells #[.int .i64 xf, .int .i64 xt] 42 (0, 0))) := (by rw [hw10]; exact heap_alloc_new w9 _ : _ = _)
                have HS10 : Hid (w9.heap.size + 1 = w10.heap.size) := (by rw [hw10]; simp : _ = _)
                have HZ10 : Hid (w.heap.size ≤ w10.heap.size) := HB10.out.size
                have HO9k : Hid (OwnC 46 w.heap.size (.slice av acc.length cv) acc w9) := HO9
                clear hb10 HB9 HO9
                by_cases hxe : xe = 0
                · subst hxe
                  by_cases h00 : (xf, xt) = (0, 0)
                  · have e0 : xf = 0 ∧ xt = 0 := by simpa using h00
                    obtain ⟨rfl, rfl⟩ := e0
                    have heq : ∀ W, (binOp .eql 42 (.agg #[.int .i64 0, .int .i64 0]) (.agg #[.int .i64 0, .int .i64 0])).run Tryd.prog W = .ok (.bool true) W := fun W => by rw [eqNr]; simp
                    obtain ⟨r1, r2, r3⟩ := HER.out k1 93 (by decide) (by rw [HZe.out]; simp)
                    have HRr : Hid (R.1 = [] ∧ R.2.1 = (a2 : Int) ∧ R.2.2 = 93) := ⟨r1, by rw [r2, HA2.out], r3⟩
                    clear r1 r2 r3
                    go_wp2
                    rw [← hw10, HS10.out]
                    go_ret3
                    rw [HRr.out.1, HRr.out.2.1, HRr.out.2.2]
                    exact ⟨_, rfl, ownC_empty _ _ HZ10.out, HB10.out.alloc HZ10.out _⟩
                  · have hbd2 : 0 ≤ xf ∧ xf < xt ∧ xt ≤ 4611686018427387905 := hbd.resolve_left h00
                    have heq : ∀ W, (binOp .eql 42 (.agg #[.int .i64 xf, .int .i64 xt]) (.agg #[.int .i64 0, .int .i64 0])).run Tryd.prog W = .ok (.bool false) W := fun W => by
                      rw [eqNr]
                      have : (xt == 0) = false := by simp; omega
                      rw [this, Bool.and_false]
                    have HZf : Hid (Z = if c3 = true then (noPc, 94, s.size - a1) else if c4 = false then (noPc, 93, k1 + k2) else if ((s.size - a1 - (k1 + k2 + 2) : Nat) : Int) < xt - xf then (noPc, 94, s.size - a1) else (⟨v1, (xf, xt), xz, (l.drop (a3 + 2)).take (xt - xf).toNat⟩, 0, k1 + k2 + 2 + (xt - xf).toNat)) := (by rw [HZe.out, if_neg (by simpa using h00)] : Z = _)
                    clear HZe h00 hbd
                    go_wp2_with fail
                    rw [← hw10]
                    clear hw10
                    refine (HC3.out _).mono ?_
                    rintro e w11 ⟨rfl, hb11⟩
                    have HB11 : Hid (Below w.heap.size w w11) := HB10.out.trans (hb11.mono HZ10.out)
                    have HO11 : Hid (OwnC 46 w.heap.size (.slice av acc.length cv) acc w11) := HO10.out.below hb11
                    have HP11 : Hid (w11.heap[w9.heap.size]? = some (.cells #[.int .i64 xf, .int .i64 xt] 42 (0, 0))) := (by rw [hb11.block _ (Array.getElem?_eq_some_iff.1 HP10.out).1]; exact HP10.out : _ = _)
                    have hz11 : w.heap.size ≤ w11.heap.size := HB11.out.size
                    clear hb11 HB10 HO10 HP10 HZ10
                    obtain ⟨q0, q1⟩ := cells2 HP11.out
                    cases c3 with
                    | true =>
                      obtain ⟨r1, r2, r3⟩ := HER.out (s.size - a1) 94 (by decide) (by rw [HZf.out]; simp)
                      have HRr : Hid (R.1 = [] ∧ R.2.1 = (s.size : Int) ∧ R.2.2 = 94) := ⟨r1, by rw [r2]; omega, r3⟩
                      clear r1 r2 r3
                      go_wp2
                      go_ret3
                      rw [HRr.out.1, HRr.out.2.1, HRr.out.2.2]
                      exact ⟨_, rfl, ownC_empty _ _ hz11, HB11.out.alloc hz11 _⟩
                    | false =>
                      go_wp2_with fail
                      refine (HS3.out _).mono ?_
                      rintro e w12 ⟨rfl, hw12⟩
                      rw [hw12]
                      clear hw12
                      cases c4 with
                      | false =>
                        obtain ⟨r1, r2, r3⟩ := HER.out (k1 + k2) 93 (by decide) (by rw [HZf.out]; simp)
                        have HRr : Hid (R.1 = [] ∧ R.2.1 = (a3 : Int) ∧ R.2.2 = 93) := ⟨r1, by rw [r2, HA3.out], r3⟩
                        clear r1 r2 r3
                        go_wp2
                        go_ret3
                        rw [HRr.out.1, HRr.out.2.1, HRr.out.2.2]
                        exact ⟨_, rfl, ownC_empty _ _ hz11, HB11.out.alloc hz11 _⟩
                      | true =>
                        have h5s := HP3.out rfl
                        obtain ⟨nN, hnN⟩ : ∃ nN : Nat, xt - xf = (nN : Int) := ⟨(xt - xf).toNat, by omega⟩
                        have HNN : Hid ((xt - xf).toNat = nN) := (by rw [hnN]; rfl : _ = _)
                        have hwn : IntKind.i64.wrap (nN : Int) = (nN : Int) := by rw [IntKind.wrap_i64]; omega
                        have hnb : nN ≤ 4611686018427387905 := by omega
                        have hw18 : IntKind.i64.wrap ((s.size : Int) - ((a3 : Int) + 2)) = (s.size : Int) - ((a3 : Int) + 2) := by rw [IntKind.wrap_i64]; omega
                        have hlen : s.size - a1 - (k1 + k2 + 2) = s.size - (a3 + 2) := by have := HA3.out; omega
                        have HZg : Hid (Z = if ((s.size - (a3 + 2) : Nat) : Int) < (nN : Int) then (noPc, 94, s.size - a1) else (⟨v1, (xf, xt), xz, (l.drop (a3 + 2)).take nN⟩, 0, k1 + k2 + 2 + nN)) := (by rw [HZf.out, if_neg (by simp), if_neg (by simp), hlen, HNN.out, hnN] : Z = _)
                        clear HZf hlen
                        by_cases h5 : ((s.size - (a3 + 2) : Nat) : Int) < (nN : Int)
                        · have hd : decide ((s.size : Int) - ((a3 : Int) + 2) < (nN : Int)) = true := decide_eq_true (by omega)
                          obtain ⟨r1, r2, r3⟩ := HER.out (s.size - a1) 94 (by decide) (by rw [HZg.out, if_pos h5])
                          have HRr : Hid (R.1 = [] ∧ R.2.1 = (s.size : Int) ∧ R.2.2 = 94) := ⟨r1, by rw [r2]; omega, r3⟩
                          clear r1 r2 r3 h5
                          go_wp2
                          go_ret3
                          rw [HRr.out.1, HRr.out.2.1, HRr.out.2.2]
                          exact ⟨_, rfl, ownC_empty _ _ hz11, HB11.out.alloc hz11 _⟩
                        · have hd : decide ((s.size : Int) - ((a3 : Int) + 2) < (nN : Int)) = false := decide_eq_false (by omega)
                          have hx0 := HEx.out nN
                          obtain ⟨BY, HBY⟩ : ∃ BY, Hid (BY = s.extract (a3 + 2) (a3 + 2 + nN)) := ⟨_, rfl⟩
                          have hbx : s.extract (a3 + 2) (a3 + 2 + nN) = BY := HBY.out.symm
                          obtain ⟨pp, HPP⟩ : ∃ pp : Pc, Hid (pp = ⟨v1, (xf, xt), xz, (l.drop (a3 + 2)).take nN⟩) := ⟨_, rfl⟩
                          have HV : Hid (str v1 = str pp.media ∧ xf = pp.sp.1 ∧ xt = pp.sp.2 ∧ xz = pp.size ∧ BY = str pp.body) := (by rw [HPP.out, HBY.out, hx0]; exact ⟨rfl, rfl, rfl, rfl, rfl⟩ : _ ∧ _)
                          have HRn : Hid (R = dgo op cl l f (a3 + 2 + nN) (acc ++ [pp])) := (by
                            rw [HQ7.out, HZg.out, if_neg h5, HPP.out, show a3 + 2 + nN = a1 + (k1 + k2 + 2 + nN) by have := HA3.out; omega]
                            simp : R = _)
                          have hle5 : a3 + 2 + nN ≤ s.size := by omega
                          have ha13 : a < a3 := by have := HA3.out; omega
                          have hws : (a3 : Int) + 2 + xt - xf = (a3 : Int) + 2 + (nN : Int) := by omega
                          have hwx : IntKind.i64.wrap ((a3 : Int) + 2 + xt) = (a3 : Int) + 2 + xt := by rw [IntKind.wrap_i64]; omega
                          have hwa : IntKind.i64.wrap ((a3 : Int) + 2 + (nN : Int)) = (a3 : Int) + 2 + (nN : Int) := by rw [IntKind.wrap_i64]; omega
                          have hta : ((a3 : Int) + 2 + (nN : Int)).toNat = a3 + 2 + nN := by omega
                          have htb : ((a3 : Int) + 2).toNat = a3 + 2 := by omega
                          have hle : (a3 : Int) + 2 + (nN : Int) ≤ (s.size : Int) := by omega
                          have hle2 : (a3 : Int) + 2 ≤ (a3 : Int) + 2 + (nN : Int) := by omega
                          have ha30 : (0 : Int) ≤ (a3 : Int) + 2 := by omega
                          have hal5 : acc.length + 1 ≤ 1073741824 := by omega
                          have HZ11 : Hid (w.heap.size ≤ w11.drew.heap.size) := hz11
                          have HO12 : Hid (OwnC 46 w.heap.size (.slice av acc.length cv) acc w11.drew) := HO11.out.below (bel_drewN (Below.refl _ _) 1)
                          have HB12 : Hid (Below w.heap.size w w11.drew) := bel_drewN HB11.out 1
                          clear h5 hx0 HZg HER HQ7
                          go_wp2_with fail
                          go_region_law (refine step_appC9 46 26 infoC9r Tryd.underlying26 rfl (.tmp 157) (.tmp 172) rfl w.heap.size _ acc _ pp _ _ HV.out.1 HV.out.2.2.2.2 _ _ _ HV.out.2.1 HV.out.2.2.1 HV.out.2.2.2.1 (by simp [Act.eval, Act.put]) HO12.out _ (by simp [Act.eval, Act.put]) rfl hal5 HZ11.out ?_; intro v13 w13 hO13 hb13 hk13; obtain ⟨q3, q4⟩ := cells2 ((hk13 w9 w9.heap.size HO9k.out (Nat.le_refl _) (Array.getElem?_eq_some_iff.1 HP11.out).1).trans HP11.out))
                          all_goals
                            have HO13 : Hid (OwnC 46 w.heap.size v13 (acc ++ [pp]) w13) := hO13
                            have HB13 : Hid (Below w.heap.size w w13) := HB12.out.trans hb13
                            obtain ⟨f', rfl⟩ : ∃ f', f = f' + 1 := ⟨f - 1, by omega⟩
                            have HF : Hid (∃ (a' f : Nat) (acc : List Pc), a' ≤ s.size ∧ s.size ≤ a' + f ∧ acc.length ≤ a' ∧ Hid (R = dgo op cl l (f + 1) a' acc) ∧ Value.int .i64 ((a3 : Int) + 2 + (nN : Int)) = .int .i64 (a' : Int) ∧ Hid (OwnC 46 w.heap.size v13 acc w13) ∧ Hid (Below w.heap.size w w13)) := (⟨a3 + 2 + nN, f', acc ++ [pp], by omega, by omega, by rw [List.length_append]; simp; omega, HRn, by go_num, HO13, HB13⟩ : ∃ _, _)
                            have HM : Hid (s.size + 1 - (intOf (Value.int .i64 ((a3 : Int) + 2 + (nN : Int)))).toNat < s.size + 1 - (intOf (Value.int .i64 (a : Int))).toNat) := (by simp [intOf]; omega : _ < _)
                            clear hO13 hb13 hk13 HB11 HO11 HO12 HB12 q0 q1 HP11 HO9k HRn HO13 HB13
                            first
                            | exact ⟨HF.out, HM.out⟩
                            | (go_wp2
                               go_roundw
                               case rel => exact HF.out
                               case measure => exact HM.out)
                · obtain ⟨r1, r2, r3⟩ := HER.out k1 93 (by decide) (by rw [HZe.out]; simp [hxe])
                  have HRr : Hid (R.1 = [] ∧ R.2.1 = (a2 : Int) ∧ R.2.2 = 93) := ⟨r1, by rw [r2, HA2.out], r3⟩
                  clear r1 r2 r3
                  go_wp2
                  rw [← hw10, HS10.out]
                  go_ret3
                  rw [HRr.out.1, HRr.out.2.1, HRr.out.2.2]
                  exact ⟨_, rfl, ownC_empty _ _ HZ10.out, HB10.out.alloc HZ10.out _⟩
              · obtain ⟨r1, r2, r3⟩ := HER.out k1 93 (by decide) (by rw [HZd.out]; simp)
                have HRr : Hid (R.1 = [] ∧ R.2.1 = (a2 : Int) ∧ R.2.2 = 93) := ⟨r1, by rw [r2, HA2.out], r3⟩
                clear r1 r2 r3
                go_wp2
                go_ret3
                rw [HRr.out.1, HRr.out.2.1, HRr.out.2.2]
                exact ⟨_, rfl, ownC_empty _ _ hz8, HB8.out.alloc hz8 _⟩
              · obtain ⟨r1, r2, r3⟩ := HER.out (s.size - a1) 94 (by decide) (by rw [HZd.out]; simp)
                have HRr : Hid (R.1 = [] ∧ R.2.1 = (s.size : Int) ∧ R.2.2 = 94) := ⟨r1, by rw [r2]; omega, r3⟩
                clear r1 r2 r3
                go_wp2
                go_ret3
                rw [HRr.out.1, HRr.out.2.1, HRr.out.2.2]
                exact ⟨_, rfl, ownC_empty _ _ hz8, HB8.out.alloc hz8 _⟩
            · obtain ⟨r1, r2, r3⟩ := HER.out 0 93 (by decide) (by rw [HZd.out]; simp)
              have HRr : Hid (R.1 = [] ∧ R.2.1 = (a1 : Int) ∧ R.2.2 = 93) := ⟨r1, r2, r3⟩
              clear r1 r2 r3
              go_wp2
              go_ret3
              rw [HRr.out.1, HRr.out.2.1, HRr.out.2.2]
              exact ⟨_, rfl, ownC_empty _ _ hz7, HB7.out.alloc hz7 _⟩
            · obtain ⟨r1, r2, r3⟩ := HER.out (s.size - a1) 94 (by decide) (by rw [HZd.out]; simp)
              have HRr : Hid (R.1 = [] ∧ R.2.1 = (s.size : Int) ∧ R.2.2 = 94) := ⟨r1, by rw [r2]; omega, r3⟩
              clear r1 r2 r3
              go_wp2
              go_ret3
              rw [HRr.out.1, HRr.out.2.1, HRr.out.2.2]
              exact ⟨_, rfl, ownC_empty _ _ hz7, HB7.out.alloc hz7 _⟩

end Sn
end Go.Proofs.YthdfgepnadgkjaaDoor
