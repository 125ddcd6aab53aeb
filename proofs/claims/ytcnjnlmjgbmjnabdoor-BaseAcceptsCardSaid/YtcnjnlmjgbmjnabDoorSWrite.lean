/-
  (*base.Sum).Write.
-/
import Derived.Test.YtcnjnlmjgbmjnabDoorSSum
import Derived.Deep.RegionHeldLaw
set_option linter.unusedVariables false
set_option linter.unusedSimpArgs false
namespace Go.Proofs.YtcnjnlmjgbmjnabDoor
open Go.RowKit
namespace Bs

theorem step_cpS {ops : Array Oper} {o : Oper} {a : Act} {W : World} {K : Act → World → Prop} {Q : Exit → Act → World → Prop} {E : Prop} (hgd : o.guard = none) (d x : Operand)
    (ho : o.op = .call { callee := .builtin .copy, args := #[d, x], argTypes := #[34, 9] }) (b off dLen dCap : Nat) (s : List UInt8) (m : Nat) (hm : m = min s.length dLen) (ht : W.there b off m)
    (hd : a.eval d = .slice (some ⟨b, off, none⟩) dLen dCap) (hx : a.eval x = .string (str s)) (h : K (a.put o.dst (.int .i64 (m : Int))) (W.setCells b off (bv (s.take m)))) : if Region.wanted o (yielded ops a.tmps) = true then Oper.wp Tryd.prog o a W K Q else E := by
  have hw : Region.wanted o (yielded ops a.tmps) = true := by simp [Region.wanted, hgd]
  rw [if_pos hw]
  have hrun := run_cpS o.type W b off dLen dCap s m hm ht
  unfold Oper.wp
  simp [execOp, ho, resolve, invoke, builtin, hd, hx, hrun, Result.andThen]
  exact h

/-- The cells of a Sum. -/
def sc (s : St) (pc : List UInt8) (n : Nat) : List Value := wv s.l ++ (bv pc ++ [.int .i64 (n : Int)])
theorem sc_length (s : St) (pc : List UInt8) (n : Nat) (h : pc.length = 64) : (sc s pc n).length = 70 := by simp [sc, wv, St.l, bv, h]
theorem sc_get5 (s : St) (pc : List UInt8) (n j : Nat) (h : pc.length = 64) (hj : j < 64) : (sc s pc n)[5 + j]? = (bv pc)[j]? := by
  unfold sc
  have hl : (wv s.l).length = 5 := rfl
  rw [List.getElem?_append_right (by rw [hl]; omega), hl, show 5 + j - 5 = j by omega, List.getElem?_append_left (by rw [bv_length, h]; exact hj)]
theorem sc_get0 (s : St) (pc : List UInt8) (n j : Nat) (hj : j < 5) : (sc s pc n)[j]? = (wv s.l)[j]? := by
  unfold sc
  have hl : (wv s.l).length = 5 := rfl
  rw [List.getElem?_append_left (by rw [hl]; exact hj)]
theorem sc_get69 (s : St) (pc : List UInt8) (n : Nat) (h : pc.length = 64) : (sc s pc n)[69]? = some (.int .i64 (n : Int)) := by
  unfold sc
  have hl : (wv s.l).length = 5 := rfl
  rw [List.getElem?_append_right (by rw [hl]; omega), hl, List.getElem?_append_right (by rw [bv_length, h]; omega), bv_length, h]
  rfl
/-- Bytes laid over a piece. -/
def lay (pc y : List UInt8) (m : Nat) : List UInt8 := pc.take m ++ y ++ pc.drop (m + y.length)
theorem lay_length (pc y : List UInt8) (m : Nat) (h : pc.length = 64) (hm : m + y.length ≤ 64) : (lay pc y m).length = 64 := by simp [lay]; omega
theorem sc_lay (s : St) (pc y : List UInt8) (n m : Nat) (h : pc.length = 64) (hm : m + y.length ≤ 64) : setL (sc s pc n) (5 + m) (bv y) = sc s (lay pc y m) n := by
  have hl : (wv s.l).length = 5 := rfl
  apply List.ext_getElem?
  intro j
  rw [setL_get _ _ _ _ (by rw [sc_length s pc n h, bv_length]; omega), bv_length]
  rcases (show j < 5 ∨ (5 ≤ j ∧ j < 69) ∨ 69 ≤ j by omega) with hj | ⟨h1, h2⟩ | hj
  · rw [if_neg (by omega), sc_get0 _ _ _ _ hj, sc_get0 _ _ _ _ hj]
  · obtain ⟨i, rfl⟩ : ∃ i, j = 5 + i := ⟨j - 5, by omega⟩
    rw [sc_get5 s pc n i h (by omega), sc_get5 s _ n i (lay_length pc y m h hm) (by omega), bv_get, bv_get, bv_get]
    unfold lay
    by_cases c1 : i < m
    · rw [if_neg (by omega), List.append_assoc, List.getElem?_append_left (by simp; omega), List.getElem?_take, if_pos c1]
    · by_cases c2 : i < m + y.length
      · rw [if_pos (by omega), List.append_assoc, List.getElem?_append_right (by simp; omega), List.getElem?_append_left (by simp; omega)]
        congr 2
        simp
        omega
      · rw [if_neg (by omega), List.append_assoc, List.getElem?_append_right (by simp; omega), List.getElem?_append_right (by simp; omega), List.getElem?_drop]
        congr 2
        simp
        omega
  · rw [if_neg (by omega)]
    by_cases e : j = 69
    · subst e
      rw [sc_get69 s pc n h, sc_get69 s _ n (lay_length pc y m h hm)]
    · rw [List.getElem?_eq_none (by rw [sc_length s pc n h]; omega), List.getElem?_eq_none (by rw [sc_length s _ n (lay_length pc y m h hm)]; omega)]
theorem sc_count (s : St) (pc : List UInt8) (n n' : Nat) (h : pc.length = 64) : (sc s pc n).set 69 (.int .i64 (n' : Int)) = sc s pc n' := by
  have hl : (wv s.l).length = 5 := rfl
  unfold sc
  rw [List.set_append_right _ _ (by rw [hl]; omega), hl, List.set_append_right _ _ (by rw [bv_length, h]; omega), bv_length, h]
  rfl
theorem sc_words (s s' : St) (pc : List UInt8) (n : Nat) (h : pc.length = 64) : setL (sc s pc n) 0 (wv s'.l) = sc s' pc n := by
  have hl : (wv s.l).length = 5 := rfl
  have hl' : (wv s'.l).length = 5 := rfl
  apply List.ext_getElem?
  intro j
  rw [setL_get _ _ _ _ (by rw [sc_length s pc n h, hl']; omega), hl']
  by_cases hj : j < 5
  · rw [if_pos (by omega), sc_get0 _ _ _ _ hj]
    rfl
  · rw [if_neg (by omega)]
    unfold sc
    have e1 : (wv s.l ++ (bv pc ++ [.int .i64 (n : Int)]))[j]? = (bv pc ++ [.int .i64 (n : Int)])[j - 5]? := List.getElem?_append_right (by omega)
    have e2 : (wv s'.l ++ (bv pc ++ [.int .i64 (n : Int)]))[j]? = (bv pc ++ [.int .i64 (n : Int)])[j - 5]? := List.getElem?_append_right (by omega)
    rw [e1, e2]

/-- What one round makes of the piece. -/
theorem lay_take (g r pc : List UInt8) (hp : pc.length = 64) (ht : pc.take (g.length % 64) = g.drop (g.length - g.length % 64)) (k : Nat) (hk : k = min r.length (64 - g.length % 64)) (hr : g.length % 64 + k < 64) :
    (lay pc (r.take k) (g.length % 64)).take ((g ++ r.take k).length % 64) = (g ++ r.take k).drop ((g ++ r.take k).length - (g ++ r.take k).length % 64) := by
  have hkl : (r.take k).length = k := by rw [List.length_take]; omega
  have hm : (g ++ r.take k).length % 64 = g.length % 64 + k := by rw [List.length_append, hkl]; omega
  rw [hm]
  unfold lay
  rw [hkl, List.take_append_of_le_length (by simp; omega), List.take_of_length_le (by simp; omega), ht, List.length_append, hkl, List.drop_append_of_le_length (by omega)]
  congr 2
  omega
theorem lay_full (g r pc : List UInt8) (hp : pc.length = 64) (ht : pc.take (g.length % 64) = g.drop (g.length - g.length % 64)) (k : Nat) (hk : k = min r.length (64 - g.length % 64)) (hr : g.length % 64 + k = 64) :
    lay pc (r.take k) (g.length % 64) = bl (g ++ r.take k) (g.length / 64) ∧ (g ++ r.take k).length / 64 = g.length / 64 + 1 ∧ (g ++ r.take k).length % 64 = 0 := by
  have hkl : (r.take k).length = k := by rw [List.length_take]; omega
  refine ⟨?_, by rw [List.length_append, hkl]; omega, by rw [List.length_append, hkl]; omega⟩
  unfold lay bl
  have e1 : (g ++ r.take k).drop (64 * (g.length / 64)) = g.drop (g.length - g.length % 64) ++ r.take k := by
    rw [List.drop_append_of_le_length (by omega), show 64 * (g.length / 64) = g.length - g.length % 64 by omega]
  have e2 : (g.drop (g.length - g.length % 64) ++ r.take k).length = 64 := by rw [List.length_append, hkl, List.length_drop]; omega
  rw [hkl, List.drop_of_length_le (by omega), List.append_nil, ht, e1]
  exact (List.take_of_length_le (by omega)).symm

theorem sum_part (g r pc : List UInt8) (hp : pc.length = 64) (ht : pc.take (g.length % 64) = g.drop (g.length - g.length % 64)) (k : Nat) (hk : k = min r.length (64 - g.length % 64)) (hr : g.length % 64 + k < 64) (b : Nat) (W : World)
    (h : Blk W b (sc (runS h0 g) (lay pc (r.take k) (g.length % 64)) (g.length + k))) : SumOf W b (g ++ r.take k) := by
  have hkl : (r.take k).length = k := by rw [List.length_take]; omega
  refine ⟨lay pc (r.take k) (g.length % 64), lay_length _ _ _ hp (by omega), lay_take g r pc hp ht k hk hr, ?_⟩
  rw [runS_same h0 g (r.take k) (by rw [List.length_append, hkl]; omega), show (g ++ r.take k).length = g.length + k by rw [List.length_append, hkl]]
  exact h
theorem sum_full (g r pc : List UInt8) (hp : pc.length = 64) (ht : pc.take (g.length % 64) = g.drop (g.length - g.length % 64)) (k : Nat) (hk : k = min r.length (64 - g.length % 64)) (hr : g.length % 64 + k = 64) (b : Nat) (W : World)
    (h : Blk W b (sc (stirS (runS h0 g) (lay pc (r.take k) (g.length % 64))) (lay pc (r.take k) (g.length % 64)) (g.length + k))) : SumOf W b (g ++ r.take k) := by
  have hkl : (r.take k).length = k := by rw [List.length_take]; omega
  obtain ⟨e1, e2, e3⟩ := lay_full g r pc hp ht k hk hr
  refine ⟨lay pc (r.take k) (g.length % 64), lay_length _ _ _ hp (by omega), by rw [e3, List.take_zero, Nat.sub_zero, List.drop_length], ?_⟩
  rw [runS_next h0 g (r.take k) e2, ← e1, show (g ++ r.take k).length = g.length + k by rw [List.length_append, hkl]]
  exact h

theorem run_sl64 (b m : Nat) (hm : m < 64) (X : World) : (Instr.sliceAt 50 (.pointer (some ⟨b, 5, none⟩)) (some (.int .i64 (m : Int))) none none).run Tryd.prog X = .ok (.slice (some ⟨b, 5 + m, none⟩) (64 - m) (64 - m)) X := by
  obtain ⟨i, hi, h⟩ := Option.map_eq_some_iff.1 sizeB
  have h1 : (0 : Int) ≤ (m : Int) := by omega
  have h2 : (m : Int) ≤ 64 := by omega
  have h3 : ¬ 64 = m := by omega
  have h4 : m ≤ 64 := by omega
  simp [Instr.sliceAt, Instr.sureAddr, run_underlying Tryd.underlying50, Instr.sliceBounds, run_sliceBound, Go.sizeOf, typeInfo, hi, h, h1, h2, h3, h4, Addr.add_lit]

/-- The load of a piece, under a name of its own. -/
def veil64 (p : Value) : Sem Value := Instr.loadAt 50 p
theorem veil64_eq (p : Value) : Instr.loadAt 50 p = veil64 p := rfl

attribute [local go_sem ↓] Go.wp_at_zero Go.wp_at_succ
attribute [local go_sem ↓] veil64_eq
set_option maxRecDepth 100000 in
set_option maxHeartbeats 2000000 in
theorem Write_any (b : Nat) (l x : List UInt8) (hlen : l.length + x.length ≤ 1125899906842624) (w : World) (h : SumOf w b l) :
    Calls Tryd.prog 19 #[.pointer (some ⟨b, 0, none⟩), .string (str x)] w fun e w' => e = .returned (.tuple #[]) ∧ SumOf w' b (l ++ x) ∧ But [b] w w' := by
  have HS0 : Hid (SumOf w b l) := h
  clear h
  go_enter Tryd.func19, Tryd.ntmps19
  go_wp2
  go_loopw [1] (fun s wr => ∃ g r : List UInt8, s = .string (str r) ∧ Hid (g ++ r = l ++ x) ∧ g.length + r.length ≤ 1125899906842624 ∧ Hid (SumOf wr b g) ∧ Hid (But [b] w wr)) (fun s _ => match s with | .string s => s.size | _ => 0)
  case atStart => exact ⟨l, x, rfl, rfl, hlen, HS0.out, But.refl _ _⟩
  case round =>
    obtain ⟨g, r, rfl, HE, hgr, HSum, HBut⟩ := hrel
    clear HS0
    have hsr : (str r).size = r.length := str_size r
    by_cases hr0 : r = []
    · subst hr0
      have HE' : Hid (g = l ++ x) := (by simpa using HE.out : g = l ++ x)
      have hemp : (str []).toList.isEmpty = true := by rw [ByteArray.toList_eq]; rfl
      go_wp2
      go_end0
      exact ⟨rfl, by rw [← HE'.out]; exact HSum.out, HBut.out⟩
    · have hne : (str r).toList.isEmpty = false := by
        rw [ByteArray.toList_eq, str_list]
        cases r with
        | nil => exact absurd rfl hr0
        | cons a r => rfl
      have hpos : 0 < r.length := List.length_pos_iff.2 hr0
      obtain ⟨pc, hp, ht, hb⟩ := HSum.out
      have HBk : Hid (Blk wr b (sc (runS h0 g) pc g.length)) := hb
      clear hb HSum hr0
      obtain ⟨k, hk⟩ : ∃ k, k = min r.length (64 - g.length % 64) := ⟨_, rfl⟩
      have HK : Hid (k = min r.length (64 - g.length % 64)) := hk
      have hmi : ((g.length : Nat) : Int) % 64 = ((g.length % 64 : Nat) : Int) := by omega
      have hk1 : 0 < k := by omega
      have hk2 : g.length % 64 + k ≤ 64 := by omega
      have hk3 : k ≤ r.length := by omega
      have hm64 : g.length % 64 < 64 := by omega
      have cN : wr.drew.cell? ⟨b, 69, none⟩ = some (.int .i64 (g.length : Int)) := HBk.out.cell 69 _ (sc_get69 _ _ _ hp)
      have HTh : Hid (wr.drew.there b (5 + g.length % 64) k) := by
        intro j hj
        refine ⟨?_, HBk.out.free _⟩
        obtain ⟨c, hc⟩ : ∃ c, (sc (runS h0 g) pc g.length)[5 + g.length % 64 + j]? = some c := by
          rw [show 5 + g.length % 64 + j = 5 + (g.length % 64 + j) by omega, sc_get5 _ _ _ _ hp (by omega), bv_get, List.getElem?_eq_getElem (by omega)]
          exact ⟨_, rfl⟩
        have := HBk.out.cell _ _ hc
        show (wr.cell? _).isSome = true
        rw [this]
        rfl
      have HSN : Hid (g.length % 64 + k < 64 → ∀ W, Blk W b (sc (runS h0 g) (lay pc (r.take k) (g.length % 64)) (g.length + k)) → SumOf W b (g ++ r.take k)) := fun h W hW => sum_part g r pc hp ht k hk h b W hW
      have HSF : Hid (g.length % 64 + k = 64 → ∀ W, Blk W b (sc (stirS (runS h0 g) (lay pc (r.take k) (g.length % 64))) (lay pc (r.take k) (g.length % 64)) (g.length + k)) → SumOf W b (g ++ r.take k)) := fun h W hW => sum_full g r pc hp ht k hk h b W hW
      have HOK := runS_ok h0 h0_ok g
      clear hk ht
      generalize hmm : g.length % 64 = m at *
      have HM : Hid (g.length % 64 = m) := hmm
      clear hmm
      have htm : (((g.length : Nat) : Int)).tmod 64 = (m : Int) := by rw [Int.tmod_eq_emod_of_nonneg (by omega)]; exact hmi
      have hsl := run_sl64 b m hm64
      have hkl : (r.take k).length = k := by rw [List.length_take]; omega
      have HB1 : Hid (Blk (wr.drew.setCells b (5 + m) (bv (r.take k))) b (sc (runS h0 g) (lay pc (r.take k) m) g.length)) := by
        have := (HBk.out.drew).setCells (vs := bv (r.take k)) (o := 5 + m)
        rwa [sc_lay _ _ _ _ _ hp (by omega)] at this
      have hpl := lay_length pc (r.take k) m hp (by omega)
      have cN1 : (wr.drew.setCells b (5 + m) (bv (r.take k))).cell? ⟨b, 69, none⟩ = some (.int .i64 (g.length : Int)) := HB1.out.cell 69 _ (sc_get69 _ _ _ hpl)
      have fN1 : (wr.drew.setCells b (5 + m) (bv (r.take k))).frozen? ⟨b, 69, none⟩ = false := HB1.out.free 69
      have HBu1 : Hid (But [b] w (wr.drew.setCells b (5 + m) (bv (r.take k)))) := but_setCells HBut.out.drew
      generalize hW1 : wr.drew.setCells b (5 + m) (bv (r.take k)) = W1 at *
      have HW1 : Hid (wr.drew.setCells b (5 + m) (bv (r.take k)) = W1) := hW1
      clear hW1
      have HB2 : Hid (Blk (W1.setCell ⟨b, 69, none⟩ (.int .i64 ((g.length : Int) + (k : Int)))) b (sc (runS h0 g) (lay pc (r.take k) m) (g.length + k))) := by
        have := HB1.out.set 69 (.int .i64 ((g.length : Int) + (k : Int)))
        rwa [show ((g.length : Int) + (k : Int)) = ((g.length + k : Nat) : Int) by omega, sc_count _ _ _ _ hpl, show ((g.length + k : Nat) : Int) = ((g.length : Int) + (k : Int)) by omega] at this
      have HBu2 : Hid (But [b] w (W1.setCell ⟨b, 69, none⟩ (.int .i64 ((g.length : Int) + (k : Int))))) := HBu1.out.setCell (p := ⟨b, 69, none⟩) (by simp) _
      have cN2 : (W1.setCell ⟨b, 69, none⟩ (.int .i64 ((g.length : Int) + (k : Int)))).cell? ⟨b, 69, none⟩ = some (.int .i64 ((g.length : Int) + (k : Int))) := World.cell?_setCell_same _ _ _ cN1
      have HY : Hid ((str r).extract k r.length = str (r.drop k)) := (by rw [str_extract, List.take_length] : (str r).extract k r.length = str (r.drop k))
      have hkr : ((k : Nat) : Int) ≤ ((r.length : Nat) : Int) := by omega
      have HE2 : Hid ((g ++ r.take k) ++ r.drop k = l ++ x) := (by rw [List.append_assoc, List.take_append_drop]; exact HE.out : (g ++ r.take k) ++ r.drop k = l ++ x)
      have hL2 : (g ++ r.take k).length + (r.drop k).length ≤ 1125899906842624 := by rw [List.length_append, hkl, List.length_drop]; omega
      have hms : (str (r.drop k)).size < (str r).size := by rw [str_size, str_size, List.length_drop]; omega
      by_cases hfull : m + k = 64
      · have hmod : (((g.length : Int) + (k : Int)) % 64 == 0) = true := by
          rw [show ((g.length : Int) + (k : Int)) % 64 = 0 by omega]
          rfl
        have HSF' : Hid (∀ W, Blk W b (sc (stirS (runS h0 g) (lay pc (r.take k) m)) (lay pc (r.take k) m) (g.length + k)) → SumOf W b (g ++ r.take k)) := HSF.out hfull
        clear HSF HSN
        generalize lay pc (r.take k) m = pq at *
        generalize runS h0 g = s0 at *
        go_wp2
        go_region_held_law (fun X => X.cell? ⟨b, 69, none⟩ = some (.int .i64 (g.length : Int))) (first | exact cN | (rw [HW1.out]; exact cN1)) (refine step_cpS (by rfl) (.tmp 15) (.tmp 16) (by rfl) b (5 + m) (64 - m) (64 - m) r k HK.out HTh.out (by rfl) (by rfl) ?_)
        rw [HW1.out]
        go_wp2
        rw [HY.out]
        generalize hW2 : W1.setCell ⟨b, 69, none⟩ (.int .i64 ((g.length : Int) + (k : Int))) = W2 at *
        clear hW2
        have hB0 : Blk W2.drew b (sc s0 pq (g.length + k)) := HB2.out.drew
        have c0 : W2.drew.cell? ⟨b, 0, none⟩ = some (.int .u32 s0.a) := hB0.cell 0 _ rfl
        have c1 : W2.drew.cell? ⟨b, 1, none⟩ = some (.int .u32 s0.b) := hB0.cell 1 _ rfl
        have c2 : W2.drew.cell? ⟨b, 2, none⟩ = some (.int .u32 s0.c) := hB0.cell 2 _ rfl
        have c3 : W2.drew.cell? ⟨b, 3, none⟩ = some (.int .u32 s0.d) := hB0.cell 3 _ rfl
        have c4 : W2.drew.cell? ⟨b, 4, none⟩ = some (.int .u32 s0.e) := hB0.cell 4 _ rfl
        have R2 : W2.drew.rangeAt b 5 (bv pq) := fun j v hv => by
          have hj : j < 64 := by have := (List.getElem?_eq_some_iff.1 hv).1; rw [bv_length, hpl] at this; exact this
          exact hB0.cell (5 + j) v (by rw [sc_get5 _ _ _ _ hpl hj]; exact hv)
        have KP : Hid (∀ W3, Below W2.drew.heap.size W2.drew W3 → W3.rangeAt b 5 (bv pq)) := fun W3 hb j v hv => by
          have hB3 : Blk W3 b (sc s0 pq (g.length + k)) := hB0.below hb
          have hj : j < 64 := by have := (List.getElem?_eq_some_iff.1 hv).1; rw [bv_length, hpl] at this; exact this
          exact hB3.cell (5 + j) v (by rw [sc_get5 _ _ _ _ hpl hj]; exact hv)
        have KC : Hid (∀ W3, Below W2.drew.heap.size W2.drew W3 → W3.cell? ⟨b, 0, none⟩ = some (.int .u32 s0.a) ∧ W3.cell? ⟨b, 1, none⟩ = some (.int .u32 s0.b) ∧ W3.cell? ⟨b, 2, none⟩ = some (.int .u32 s0.c) ∧ W3.cell? ⟨b, 3, none⟩ = some (.int .u32 s0.d) ∧ W3.cell? ⟨b, 4, none⟩ = some (.int .u32 s0.e) ∧ ∀ j, W3.frozen? ⟨b, j, none⟩ = false) := fun W3 hb => by
          have hB3 : Blk W3 b (sc s0 pq (g.length + k)) := hB0.below hb
          exact ⟨hB3.cell 0 _ rfl, hB3.cell 1 _ rfl, hB3.cell 2 _ rfl, hB3.cell 3 _ rfl, hB3.cell 4 _ rfl, fun j => hB3.free j⟩
        have KE : Hid (∀ W3, Below W2.drew.heap.size W2.drew W3 → ∀ s1 : St, Blk (((((W3.setCell ⟨b, 0, none⟩ (.int .u32 s1.a)).setCell ⟨b, 1, none⟩ (.int .u32 s1.b)).setCell ⟨b, 2, none⟩ (.int .u32 s1.c)).setCell ⟨b, 3, none⟩ (.int .u32 s1.d)).setCell ⟨b, 4, none⟩ (.int .u32 s1.e)) b (sc s1 pq (g.length + k))) := fun W3 hb s1 => by
          have hB3 : Blk W3 b (sc s0 pq (g.length + k)) := hB0.below hb
          exact ((((hB3.set 0 (.int .u32 s1.a)).set 1 (.int .u32 s1.b)).set 2 (.int .u32 s1.c)).set 3 (.int .u32 s1.d)).set 4 (.int .u32 s1.e)
        have KS : Hid (∀ W3, Below W2.drew.heap.size W2.drew W3 → ∀ s1 : St, (((((W3.setCell ⟨b, 0, none⟩ (.int .u32 s1.a)).setCell ⟨b, 1, none⟩ (.int .u32 s1.b)).setCell ⟨b, 2, none⟩ (.int .u32 s1.c)).setCell ⟨b, 3, none⟩ (.int .u32 s1.d)).setCell ⟨b, 4, none⟩ (.int .u32 s1.e)).rangeAt b 5 (bv pq)) := fun W3 hb s1 j v hv => by
          have hj : j < 64 := by have := (List.getElem?_eq_some_iff.1 hv).1; rw [bv_length, hpl] at this; exact this
          exact (KE.out W3 hb s1).cell (5 + j) v (by rw [sc_get5 _ _ _ _ hpl hj]; exact hv)
        have KB : Hid (∀ W3, Below W2.drew.heap.size W2.drew W3 → ∀ s1 : St, But [b] w (((((W3.setCell ⟨b, 0, none⟩ (.int .u32 s1.a)).setCell ⟨b, 1, none⟩ (.int .u32 s1.b)).setCell ⟨b, 2, none⟩ (.int .u32 s1.c)).setCell ⟨b, 3, none⟩ (.int .u32 s1.d)).setCell ⟨b, 4, none⟩ (.int .u32 s1.e))) := fun W3 hb s1 => by
          have h3 : But [b] w W3 := HBu2.out.drew.trans (But.of_below hb).nil
          exact ((((h3.setCell (p := ⟨b, 0, none⟩) (by simp) _).setCell (p := ⟨b, 1, none⟩) (by simp) _).setCell (p := ⟨b, 2, none⟩) (by simp) _).setCell (p := ⟨b, 3, none⟩) (by simp) _).setCell (p := ⟨b, 4, none⟩) (by simp) _
        have CS : Hid (∀ W, Calls Tryd.prog 27 #[.agg #[.int .u32 s0.a, .int .u32 s0.b, .int .u32 s0.c, .int .u32 s0.d, .int .u32 s0.e], .agg (bv pq).toArray] W fun e w' => e = .returned (.agg #[.int .u32 (stirS s0 pq).a, .int .u32 (stirS s0 pq).b, .int .u32 (stirS s0 pq).c, .int .u32 (stirS s0 pq).d, .int .u32 (stirS s0 pq).e]) ∧ Below W.heap.size W w') := fun W => stir_any s0 HOK pq hpl W
        have ld64 : (veil64 (.pointer (some ⟨b, 5, none⟩))).run Tryd.prog W2.drew = .ok (.agg (bv pq).toArray) W2.drew := run_loadAt_mid _ b 5 50 (bv pq) _ R2 Tryd.underlying50 rfl (by rw [bv_length, hpl]; exact size64)
        generalize stirS s0 pq = s1 at *
        clear HBut HB1 HB2 HBu1 HBu2 HTh hB0 KS KP R2
        generalize (bv pq).toArray = p5 at *
        go_region_with (go_at_call 27; refine (CS.out _).mono ?_; rintro e w3 ⟨rfl, hb3⟩; obtain ⟨q0, q1, q2, q3, q4, qf⟩ := KC.out w3 hb3; have qf0 := qf 0; have qf1 := qf 1; have qf2 := qf 2; have qf3 := qf 3; have qf4 := qf 4; clear qf)
        all_goals go_wp2
        all_goals exact ⟨⟨g ++ r.take k, r.drop k, rfl, HE2.out, hL2, HSF'.out _ (KE.out w3 hb3 s1), KB.out w3 hb3 s1⟩, hms⟩
      · have hmod : (((g.length : Int) + (k : Int)) % 64 == 0) = false := by
          simp only [beq_eq_false_iff_ne, ne_eq]
          omega
        have HSum : Hid (SumOf (W1.setCell ⟨b, 69, none⟩ (.int .i64 ((g.length : Int) + (k : Int)))) b (g ++ r.take k)) := HSN.out (by omega) _ HB2.out
        clear HSF HSN
        go_wp2
        go_region_held_law (fun X => X.cell? ⟨b, 69, none⟩ = some (.int .i64 (g.length : Int))) (first | exact cN | (rw [HW1.out]; exact cN1)) (refine step_cpS (by rfl) (.tmp 15) (.tmp 16) (by rfl) b (5 + m) (64 - m) (64 - m) r k HK.out HTh.out (by rfl) (by rfl) ?_)
        rw [HW1.out]
        go_wp2
        rw [HY.out]
        exact ⟨⟨g ++ r.take k, r.drop k, rfl, HE2.out, hL2, HSum.out, HBu2.out⟩, hms⟩

end Bs
end Go.Proofs.YtcnjnlmjgbmjnabDoor
