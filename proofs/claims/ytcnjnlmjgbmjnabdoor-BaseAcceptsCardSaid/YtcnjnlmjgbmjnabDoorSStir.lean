/-
  base.stir: the five words behind one more piece.
-/
import Derived.Test.YtcnjnlmjgbmjnabDoorSSpread
set_option linter.unusedVariables false
set_option linter.unusedSimpArgs false
namespace Go.Proofs.YtcnjnlmjgbmjnabDoor
open Go.RowKit
namespace Bs

/- Stores of many cells. -/
def setL : List Value → Nat → List Value → List Value
  | xs, _, [] => xs
  | xs, o, v :: r => setL (xs.set o v) (o + 1) r
theorem setL_length : ∀ (vs xs : List Value) (o : Nat), (setL xs o vs).length = xs.length
  | [], xs, o => rfl
  | v :: r, xs, o => by unfold setL; rw [setL_length r]; simp
theorem setL_get : ∀ (vs xs : List Value) (o j : Nat), o + vs.length ≤ xs.length → (setL xs o vs)[j]? = if o ≤ j ∧ j < o + vs.length then vs[j - o]? else xs[j]?
  | [], xs, o, j, _ => by unfold setL; rw [if_neg (by simp)]
  | v :: r, xs, o, j, h => by
    simp only [List.length_cons] at h
    unfold setL
    rw [setL_get r (xs.set o v) (o + 1) j (by simp; omega), List.getElem?_set]
    simp only [List.length_cons]
    by_cases h1 : j = o
    · subst h1
      rw [if_neg (by omega), if_pos rfl, if_pos (by omega), if_pos (by omega), Nat.sub_self]
      rfl
    · by_cases h2 : o + 1 ≤ j ∧ j < o + 1 + r.length
      · rw [if_pos h2, if_pos (by omega), show j - o = (j - (o + 1)) + 1 by omega]
        rfl
      · rw [if_neg h2, if_neg (fun e => h1 e.symm), if_neg (by omega)]
theorem setL_all (xs vs : List Value) (h : vs.length = xs.length) : setL xs 0 vs = vs := by
  apply List.ext_getElem?
  intro j
  rw [setL_get vs xs 0 j (by omega)]
  by_cases hj : j < vs.length
  · rw [if_pos (by omega), Nat.sub_zero]
  · rw [if_neg (by omega), List.getElem?_eq_none (by omega), List.getElem?_eq_none (by omega)]
theorem Blk.setCells : ∀ {vs : List Value} {w : World} {b : Nat} {xs : List Value} {o : Nat}, Blk w b xs → Blk (w.setCells b o vs) b (setL xs o vs) := by
  intro vs
  induction vs with
  | nil => intro w b xs o h; exact h
  | cons v r ih =>
    intro w b xs o h
    rw [World.setCells]
    exact ih (h.set o v)
theorem but_setCells : ∀ {vs : List Value} {a w : World} {b : Nat} {o : Nat}, But [b] a w → But [b] a (w.setCells b o vs) := by
  intro vs
  induction vs with
  | nil => intro a w b o h; exact h
  | cons v r ih =>
    intro a w b o h
    rw [World.setCells]
    exact ih (h.setCell (p := ⟨b, o, none⟩) (by simp) v)
theorem Blk.setCellsOther {vs : List Value} {w : World} {b b' : Nat} {xs : List Value} {o : Nat} (h : Blk w b xs) (hb : b ≠ b') : Blk (w.setCells b' o vs) b xs := h.but (but_setCells (But.refl [b'] w)) (by simpa using hb)
theorem Blk.whole {vs : List Value} {w : World} {b : Nat} {xs : List Value} (h : Blk w b xs) (hl : vs.length = xs.length) : Blk (w.setCells b 0 vs) b vs := by
  have := h.setCells (vs := vs) (o := 0)
  rwa [setL_all xs vs hl] at this

/- One round. -/
def ff (t : Nat) (b c d : Int) : Int :=
  if t < 20 then bits .or .u32 (bits .and .u32 b c) (bits .and .u32 (bits .xor .u32 IntKind.u32.max b) d)
  else if t < 40 then bits .xor .u32 (bits .xor .u32 b c) d
  else if t < 60 then bits .or .u32 (bits .or .u32 (bits .and .u32 b c) (bits .and .u32 b d)) (bits .and .u32 c d)
  else bits .xor .u32 (bits .xor .u32 b c) d
def kk (t : Nat) : Int := if t < 20 then 1518500249 else if t < 40 then 1859775393 else if t < 60 then 2400959708 else 3395469782
def tt (w : Nat → Int) (t : Nat) (a b c d e : Int) : Int := IntKind.u32.wrap (IntKind.u32.wrap (IntKind.u32.wrap (IntKind.u32.wrap (rl5 a + ff t b c d) + e) + kk t) + w t)
structure St where
  a : Int
  b : Int
  c : Int
  d : Int
  e : Int
def St.ok (s : St) : Prop := U32 s.a ∧ U32 s.b ∧ U32 s.c ∧ U32 s.d ∧ U32 s.e
def rnd (w : Nat → Int) (t : Nat) (s : St) : St := ⟨tt w t s.a s.b s.c s.d s.e, s.a, rl30 s.b, s.c, s.d⟩
def rnds (w : Nat → Int) : Nat → St → St
  | 0, s => s
  | t + 1, s => rnd w t (rnds w t s)
theorem mod_u32 (x : Int) : U32 (IntKind.u32.wrap x) := by rw [IntKind.wrap_u32]; exact ⟨by omega, by omega⟩
theorem rnds_ok (w : Nat → Int) (s : St) (h : s.ok) : ∀ t, (rnds w t s).ok
  | 0 => h
  | t + 1 => by
    obtain ⟨h1, h2, h3, h4, h5⟩ := rnds_ok w s h t
    exact ⟨mod_u32 _, h1, rl30_u _, h3, h4⟩
theorem ff_u (t : Nat) (b c d : Int) : U32 (ff t b c d) := by
  unfold ff
  (repeat' split) <;> exact bits_u32 _ _ _
/-- The five words behind one more piece. -/
def stirS (s : St) (p : List UInt8) : St :=
  ⟨IntKind.u32.wrap (s.a + (rnds (wsch p) 80 s).a), IntKind.u32.wrap (s.b + (rnds (wsch p) 80 s).b), IntKind.u32.wrap (s.c + (rnds (wsch p) 80 s).c), IntKind.u32.wrap (s.d + (rnds (wsch p) 80 s).d), IntKind.u32.wrap (s.e + (rnds (wsch p) 80 s).e)⟩
theorem stirS_ok (s : St) (p : List UInt8) : (stirS s p).ok := ⟨mod_u32 _, mod_u32 _, mod_u32 _, mod_u32 _, mod_u32 _⟩
def St.l (s : St) : List Int := [s.a, s.b, s.c, s.d, s.e]

/-- The first k are new. -/
def mix (s f : St) (k : Nat) : List Int := f.l.take k ++ s.l.drop k

attribute [local go_sem ↓] Go.wp_at_zero Go.wp_at_succ
set_option maxRecDepth 100000 in
set_option maxHeartbeats 2000000 in
theorem stir_any (s : St) (hs : s.ok) (p : List UInt8) (hp : p.length = 64) (w : World) :
    Calls Tryd.prog 27 #[.agg (wv s.l).toArray, .agg (bv p).toArray] w fun e w' => e = .returned (.agg (wv (stirS s p).l).toArray) ∧ Below w.heap.size w w' := by
  have hz := zero5
  have hz8 := zero80
  have HP : Hid (p.length = 64) := hp
  have HS : Hid ((Tryd.prog.info? 50).map (·.size) = some (bv p).length) := (by rw [bv_length, hp]; exact size64 : (Tryd.prog.info? 50).map (·.size) = some (bv p).length)
  have HB3 : Hid (∀ o1 o2 o3, Below w.heap.size w (((w.alloc o1).alloc o2).alloc o3)) := fun o1 o2 o3 => (((Below.refl _ w).alloc (Nat.le_refl _) _).alloc (by simp) _).alloc (by simp; omega) _
  have HK0 : Hid (∀ t o2 o3, Blk (((w.alloc (.cells (wv s.l).toArray t)).alloc o2).alloc o3) w.heap.size (wv s.l)) := fun t o2 o3 => ((Blk.new w (wv s.l) t).alloc _).alloc _
  have HK1 : Hid (∀ t o1 o3, Blk (((w.alloc o1).alloc (.cells (bv p).toArray t)).alloc o3) (w.heap.size + 1) (bv p)) := fun t o1 o3 => by have := (Blk.new (w.alloc o1) (bv p) t).alloc o3; simpa using this
  have HK2 : Hid (∀ t o1 o2, Blk (((w.alloc o1).alloc o2).alloc (.cells (wv (zs 5)).toArray t)) (w.heap.size + 1 + 1) (wv (zs 5))) := fun t o1 o2 => by have := Blk.new ((w.alloc o1).alloc o2) (wv (zs 5)) t; simpa using this
  clear hp
  go_enter Tryd.func27, Tryd.ntmps27
  go_wp2_with (refine wpList_load_mid rfl 50 (.tmp 3) rfl (w.heap.size + 1) 0 rfl (bv p) _ (HK1.out _ _ _).range Tryd.underlying50 rfl HS.out ?_)
  refine (spread_any p HP.out _).mono ?_
  rintro e w2 ⟨rfl, hb2⟩
  have K0 : Hid (Blk w2 w.heap.size (wv s.l)) := (HK0.out _ _ _).below hb2
  have K2 : Hid (Blk w2 (w.heap.size + 1 + 1) (wv (zs 5))) := (HK2.out _ _ _).below hb2
  have HB : Hid (Below w.heap.size w w2) := bel_trans' (HB3.out _ _ _) hb2
  have hlt2 := K2.out.lt
  clear hb2 HB3 HK0 HK1 HK2
  have HL : Hid ((wv ((List.range 80).map (wsch p))).length = 80) := (by rw [wv_length]; simp : (wv ((List.range 80).map (wsch p))).length = 80)
  have HZ : Hid ((wv (zs 80)).length = 80) := (by rw [wv_length]; unfold zs; simp : (wv (zs 80)).length = 80)
  have HG : Hid (∀ t, t < 80 → (wv ((List.range 80).map (wsch p)))[t]? = some (.int .u32 (wsch p t))) := fun t ht => range_get 80 t _ ht
  have HA : Hid ((wv ((List.range 80).map (wsch p))).toArray.all (·.oneCell') = true) := all_oneCell_toArray (wv_one _)
  generalize wv ((List.range 80).map (wsch p)) = cs at *
  have HT : Hid (∀ t, (w2.alloc (.cells (wv (zs 80)).toArray t)).there w2.heap.size 0 cs.toArray.size) := fun t => (Blk.new w2 (wv (zs 80)) t).there _ (by rw [HZ.out]; simp [HL.out])
  have HI : Hid ((Tryd.prog.info? 47).map (·.size) = some cs.toArray.size) := (by rw [List.size_toArray, HL.out]; exact size80 : (Tryd.prog.info? 47).map (·.size) = some cs.toArray.size)
  have HF : Hid (∀ t, ∃ W, W = (w2.alloc (.cells (wv (zs 80)).toArray t)).setCells w2.heap.size 0 cs ∧ Blk W w2.heap.size cs ∧ Blk W w.heap.size (wv s.l) ∧ Blk W (w.heap.size + 1 + 1) (wv (zs 5)) ∧ Below w.heap.size w W ∧ w2.heap.size < W.heap.size) := fun t => by
    have b1 : Blk ((w2.alloc (.cells (wv (zs 80)).toArray t)).setCells w2.heap.size 0 cs) w2.heap.size cs := (Blk.new w2 (wv (zs 80)) t).whole (by rw [HL.out, HZ.out])
    exact ⟨_, rfl, b1, (K0.out.alloc _).setCellsOther (by omega), (K2.out.alloc _).setCellsOther (by omega), bel_setCells (HB.out.alloc HB.out.size _) (by omega) _ _, b1.lt⟩
  go_wp2_with (refine wpList_store_mid rfl 47 (.tmp 5) (.tmp 18) rfl w2.heap.size 0 cs.toArray rfl rfl (HT.out _) HI.out HA.out ?_)
  obtain ⟨W, hW, K3, K0', K2', HB', hlt3⟩ := HF.out 47
  rw [show (w2.alloc (.cells (wv (zs 80)).toArray 47)).setCells w2.heap.size 0 cs.toArray.toList = W from hW.symm]
  have HK3 : Hid (Blk W w2.heap.size cs) := K3
  have HK0 : Hid (Blk W w.heap.size (wv s.l)) := K0'
  have HK2 : Hid (Blk W (w.heap.size + 1 + 1) (wv (zs 5))) := K2'
  have HBW : Hid (Below w.heap.size w W) := HB'
  clear hW K3 K0' K2' HB' HF HT HI HA K0 K2 HB HZ
  generalize hb3 : w2.heap.size = B3 at *
  clear hb3 w2
  have ca : W.drew.cell? ⟨w.heap.size, 0, none⟩ = some (.int .u32 s.a) := HK0.out.cell 0 _ rfl
  have cb : W.drew.cell? ⟨w.heap.size, 1, none⟩ = some (.int .u32 s.b) := HK0.out.cell 1 _ rfl
  have cc : W.drew.cell? ⟨w.heap.size, 2, none⟩ = some (.int .u32 s.c) := HK0.out.cell 2 _ rfl
  have cd : W.drew.cell? ⟨w.heap.size, 3, none⟩ = some (.int .u32 s.d) := HK0.out.cell 3 _ rfl
  have ce : W.drew.cell? ⟨w.heap.size, 4, none⟩ = some (.int .u32 s.e) := HK0.out.cell 4 _ rfl
  go_wp2
  go_region_held3 (fun X => X.cell? ⟨w.heap.size, 0, none⟩ = some (.int .u32 s.a) ∧ X.cell? ⟨w.heap.size, 1, none⟩ = some (.int .u32 s.b) ∧ X.cell? ⟨w.heap.size, 2, none⟩ = some (.int .u32 s.c) ∧ X.cell? ⟨w.heap.size, 3, none⟩ = some (.int .u32 s.d) ∧ X.cell? ⟨w.heap.size, 4, none⟩ = some (.int .u32 s.e)) (exact ⟨ca, cb, cc, cd, ce⟩) (fail)
  -- loop
  go_wp2
  go_loopw [6, 7, 8, 9, 10, 29] (fun a b c d e i wr => ∃ t : Nat, t ≤ 80 ∧ i = .int .i64 (t : Int) ∧ a = .int .u32 (rnds (wsch p) t s).a ∧ b = .int .u32 (rnds (wsch p) t s).b ∧ c = .int .u32 (rnds (wsch p) t s).c ∧ d = .int .u32 (rnds (wsch p) t s).d ∧ e = .int .u32 (rnds (wsch p) t s).e ∧ Hid (Blk wr B3 cs) ∧ Hid (Blk wr w.heap.size (wv s.l)) ∧ Hid (Blk wr (w.heap.size + 1 + 1) (wv (zs 5))) ∧ Hid (Below w.heap.size w wr)) (fun _ _ _ _ _ i _ => 80 - (intOf i).toNat)
  case atStart => exact ⟨0, by omega, rfl, rfl, rfl, rfl, rfl, rfl, HK3.out, HK0.out, HK2.out, HBW.out.drew⟩
  case round =>
    obtain ⟨t, ht, rfl, rfl, rfl, rfl, rfl, rfl, K3, K0, K2, HB⟩ := hrel
    clear HK3 HK0 HK2 HBW ca cb cc cd ce hlt3
    obtain ⟨uA, uB, uC, uD, uE⟩ := rnds_ok (wsch p) s hs t
    by_cases hlt : t < 80
    · have hti : ((t : Nat) : Int) < 80 := by omega
      have hcw : wr.drew.cell? ⟨B3, t, none⟩ = some (.int .u32 (wsch p t)) := K3.out.cell t _ (HG.out t hlt)
      have HS1 : Hid (rnds (wsch p) (t + 1) s = ⟨tt (wsch p) t (rnds (wsch p) t s).a (rnds (wsch p) t s).b (rnds (wsch p) t s).c (rnds (wsch p) t s).d (rnds (wsch p) t s).e, (rnds (wsch p) t s).a, rl30 (rnds (wsch p) t s).b, (rnds (wsch p) t s).c, (rnds (wsch p) t s).d⟩) := rfl
      have uW := wsch_u p t
      generalize (rnds (wsch p) t s).a = A at *
      generalize (rnds (wsch p) t s).b = B at *
      generalize (rnds (wsch p) t s).c = C at *
      generalize (rnds (wsch p) t s).d = D at *
      generalize (rnds (wsch p) t s).e = E at *
      have u5 := rl5_u A
      obtain ⟨a0, a1⟩ := uA
      have uA : U32 A := ⟨a0, a1⟩
      obtain ⟨b0, b1⟩ := uB
      have uB : U32 B := ⟨b0, b1⟩
      obtain ⟨e0, e1⟩ := uE
      rcases (show t < 20 ∨ (20 ≤ t ∧ t < 40) ∨ (40 ≤ t ∧ t < 60) ∨ 60 ≤ t by omega) with h | ⟨h, h'⟩ | ⟨h, h'⟩ | h
      · have hdv : ((t : Nat) : Int) / 20 = 0 := by omega
        have HF : Hid (ff t B C D = bits .or .u32 (bits .and .u32 B C) (bits .and .u32 (bits .xor .u32 IntKind.u32.max B) D)) := (by unfold ff; rw [if_pos (by omega)] : ff t B C D = bits .or .u32 (bits .and .u32 B C) (bits .and .u32 (bits .xor .u32 IntKind.u32.max B) D))
        have HKK : Hid (kk t = 1518500249) := (by unfold kk; rw [if_pos (by omega)] : kk t = 1518500249)
        have HT : Hid (IntKind.u32.wrap (IntKind.u32.wrap (IntKind.u32.wrap (IntKind.u32.wrap (rl5 A + bits .or .u32 (bits .and .u32 B C) (bits .and .u32 (bits .xor .u32 IntKind.u32.max B) D)) + E) + 1518500249) + wsch p t) = tt (wsch p) t A B C D E) := (by unfold tt; rw [HF.out, HKK.out] : _ = tt (wsch p) t A B C D E)
        have fu : U32 (bits .or .u32 (bits .and .u32 B C) (bits .and .u32 (bits .xor .u32 IntKind.u32.max B) D)) := bits_u32 _ _ _
        clear HF HKK
        go_wp2
        go_region_held3 (fun X => X.cell? ⟨B3, t, none⟩ = some (.int .u32 (wsch p t))) (exact hcw) (first | (go_at_call 35; refine (Rot5_any A uA _).mono ?_; rintro e w' ⟨rfl, rfl⟩))
        go_wp2_with fail
        refine (Rot30_any B uB _).mono ?_
        rintro e w' ⟨rfl, hw'⟩
        rw [hw']
        clear hw' w'
        go_wp2
        exact ⟨⟨t + 1, by omega, by go_num, by rw [HS1.out, HT.out], by rw [HS1.out], by rw [HS1.out], by rw [HS1.out], by rw [HS1.out], K3.out, K0.out, K2.out, HB.out.drew⟩, by simp [intOf]; omega⟩
      · have hdv : ((t : Nat) : Int) / 20 = 1 := by omega
        have HF : Hid (ff t B C D = bits .xor .u32 (bits .xor .u32 B C) D) := (by unfold ff; rw [if_neg (by omega)]; rw [if_pos (by omega)] : ff t B C D = bits .xor .u32 (bits .xor .u32 B C) D)
        have HKK : Hid (kk t = 1859775393) := (by unfold kk; rw [if_neg (by omega)]; rw [if_pos (by omega)] : kk t = 1859775393)
        have HT : Hid (IntKind.u32.wrap (IntKind.u32.wrap (IntKind.u32.wrap (IntKind.u32.wrap (rl5 A + bits .xor .u32 (bits .xor .u32 B C) D) + E) + 1859775393) + wsch p t) = tt (wsch p) t A B C D E) := (by unfold tt; rw [HF.out, HKK.out] : _ = tt (wsch p) t A B C D E)
        have fu : U32 (bits .xor .u32 (bits .xor .u32 B C) D) := bits_u32 _ _ _
        clear HF HKK
        go_wp2
        go_region_held3 (fun X => X.cell? ⟨B3, t, none⟩ = some (.int .u32 (wsch p t))) (exact hcw) (first | (go_at_call 35; refine (Rot5_any A uA _).mono ?_; rintro e w' ⟨rfl, rfl⟩))
        go_wp2_with fail
        refine (Rot30_any B uB _).mono ?_
        rintro e w' ⟨rfl, hw'⟩
        rw [hw']
        clear hw' w'
        go_wp2
        exact ⟨⟨t + 1, by omega, by go_num, by rw [HS1.out, HT.out], by rw [HS1.out], by rw [HS1.out], by rw [HS1.out], by rw [HS1.out], K3.out, K0.out, K2.out, HB.out.drew⟩, by simp [intOf]; omega⟩
      · have hdv : ((t : Nat) : Int) / 20 = 2 := by omega
        have HF : Hid (ff t B C D = bits .or .u32 (bits .or .u32 (bits .and .u32 B C) (bits .and .u32 B D)) (bits .and .u32 C D)) := (by unfold ff; rw [if_neg (by omega)]; rw [if_neg (by omega)]; rw [if_pos (by omega)] : ff t B C D = bits .or .u32 (bits .or .u32 (bits .and .u32 B C) (bits .and .u32 B D)) (bits .and .u32 C D))
        have HKK : Hid (kk t = 2400959708) := (by unfold kk; rw [if_neg (by omega)]; rw [if_neg (by omega)]; rw [if_pos (by omega)] : kk t = 2400959708)
        have HT : Hid (IntKind.u32.wrap (IntKind.u32.wrap (IntKind.u32.wrap (IntKind.u32.wrap (rl5 A + bits .or .u32 (bits .or .u32 (bits .and .u32 B C) (bits .and .u32 B D)) (bits .and .u32 C D)) + E) + 2400959708) + wsch p t) = tt (wsch p) t A B C D E) := (by unfold tt; rw [HF.out, HKK.out] : _ = tt (wsch p) t A B C D E)
        have fu : U32 (bits .or .u32 (bits .or .u32 (bits .and .u32 B C) (bits .and .u32 B D)) (bits .and .u32 C D)) := bits_u32 _ _ _
        clear HF HKK
        go_wp2
        go_region_held3 (fun X => X.cell? ⟨B3, t, none⟩ = some (.int .u32 (wsch p t))) (exact hcw) (first | (go_at_call 35; refine (Rot5_any A uA _).mono ?_; rintro e w' ⟨rfl, rfl⟩))
        go_wp2_with fail
        refine (Rot30_any B uB _).mono ?_
        rintro e w' ⟨rfl, hw'⟩
        rw [hw']
        clear hw' w'
        go_wp2
        exact ⟨⟨t + 1, by omega, by go_num, by rw [HS1.out, HT.out], by rw [HS1.out], by rw [HS1.out], by rw [HS1.out], by rw [HS1.out], K3.out, K0.out, K2.out, HB.out.drew⟩, by simp [intOf]; omega⟩
      · have hdv : ((t : Nat) : Int) / 20 = 3 := by omega
        have HF : Hid (ff t B C D = bits .xor .u32 (bits .xor .u32 B C) D) := (by unfold ff; rw [if_neg (by omega)]; rw [if_neg (by omega)]; rw [if_neg (by omega)]; skip : ff t B C D = bits .xor .u32 (bits .xor .u32 B C) D)
        have HKK : Hid (kk t = 3395469782) := (by unfold kk; rw [if_neg (by omega)]; rw [if_neg (by omega)]; rw [if_neg (by omega)]; skip : kk t = 3395469782)
        have HT : Hid (IntKind.u32.wrap (IntKind.u32.wrap (IntKind.u32.wrap (IntKind.u32.wrap (rl5 A + bits .xor .u32 (bits .xor .u32 B C) D) + E) + 3395469782) + wsch p t) = tt (wsch p) t A B C D E) := (by unfold tt; rw [HF.out, HKK.out] : _ = tt (wsch p) t A B C D E)
        have fu : U32 (bits .xor .u32 (bits .xor .u32 B C) D) := bits_u32 _ _ _
        clear HF HKK
        go_wp2
        go_region_held3 (fun X => X.cell? ⟨B3, t, none⟩ = some (.int .u32 (wsch p t))) (exact hcw) (first | (go_at_call 35; refine (Rot5_any A uA _).mono ?_; rintro e w' ⟨rfl, rfl⟩))
        go_wp2_with fail
        refine (Rot30_any B uB _).mono ?_
        rintro e w' ⟨rfl, hw'⟩
        rw [hw']
        clear hw' w'
        go_wp2
        exact ⟨⟨t + 1, by omega, by go_num, by rw [HS1.out, HT.out], by rw [HS1.out], by rw [HS1.out], by rw [HS1.out], by rw [HS1.out], K3.out, K0.out, K2.out, HB.out.drew⟩, by simp [intOf]; omega⟩
    · obtain rfl : t = 80 := by omega
      have HEa : Hid (IntKind.u32.wrap (s.a + (rnds (wsch p) 80 s).a) = (stirS s p).a) := (rfl : IntKind.u32.wrap (s.a + (rnds (wsch p) 80 s).a) = (stirS s p).a)
      have HEb : Hid (IntKind.u32.wrap (s.b + (rnds (wsch p) 80 s).b) = (stirS s p).b) := (rfl : IntKind.u32.wrap (s.b + (rnds (wsch p) 80 s).b) = (stirS s p).b)
      have HEc : Hid (IntKind.u32.wrap (s.c + (rnds (wsch p) 80 s).c) = (stirS s p).c) := (rfl : IntKind.u32.wrap (s.c + (rnds (wsch p) 80 s).c) = (stirS s p).c)
      have HEd : Hid (IntKind.u32.wrap (s.d + (rnds (wsch p) 80 s).d) = (stirS s p).d) := (rfl : IntKind.u32.wrap (s.d + (rnds (wsch p) 80 s).d) = (stirS s p).d)
      have HEe : Hid (IntKind.u32.wrap (s.e + (rnds (wsch p) 80 s).e) = (stirS s p).e) := (rfl : IntKind.u32.wrap (s.e + (rnds (wsch p) 80 s).e) = (stirS s p).e)
      generalize (rnds (wsch p) 80 s).a = A at *
      generalize (rnds (wsch p) 80 s).b = B at *
      generalize (rnds (wsch p) 80 s).c = C at *
      generalize (rnds (wsch p) 80 s).d = D at *
      generalize (rnds (wsch p) 80 s).e = E at *
      rw [show (((80 : Nat)) : Int) = (80 : Int) from rfl]
      clear K3
      have hbd : (((((wv (zs 5)).set 0 (.int .u32 A)).set 1 (.int .u32 B)).set 2 (.int .u32 C)).set 3 (.int .u32 D)).set 4 (.int .u32 E) = [.int .u32 A, .int .u32 B, .int .u32 C, .int .u32 D, .int .u32 E] := rfl
      go_wp2
      go_loopw [94] (fun i wr => ∃ k : Nat, k ≤ 5 ∧ i = .int .i64 (k : Int) ∧ Hid (Blk wr w.heap.size (wv (mix s (stirS s p) k))) ∧ Hid (Blk wr (w.heap.size + 1 + 1) (wv (zs 5))) ∧ Hid (Below w.heap.size w wr)) (fun i _ => 5 - (intOf i).toNat)
      case atStart => exact ⟨0, by omega, rfl, K0.out, K2.out, HB.out⟩
      case round =>
        obtain ⟨k, hk, rfl, K0, K2, HB⟩ := hrel
        by_cases hk5 : k < 5
        · rcases (show k = 0 ∨ k = 1 ∨ k = 2 ∨ k = 3 ∨ k = 4 by omega) with rfl | rfl | rfl | rfl | rfl
          · have hix : ∀ x : World, (Instr.index 46 (.agg #[.int .u32 A, .int .u32 B, .int .u32 C, .int .u32 D, .int .u32 E]) (.int .i64 0)).run Tryd.prog x = .ok (.int .u32 A) x := run_index_arr 46 45 5 .u32 Tryd.underlying46 Tryd.underlying45 sizeW [.int .u32 A, .int .u32 B, .int .u32 C, .int .u32 D, .int .u32 E] 0 (by omega) (.int .u32 A) rfl
            have hc := K0.out.cell 0 (.int .u32 s.a) rfl
            have hf := K0.out.free 0
            have HN : Hid (Blk (wr.setCell ⟨w.heap.size, 0, none⟩ (.int .u32 (IntKind.u32.wrap (s.a + A)))) w.heap.size (wv (mix s (stirS s p) (0 + 1)))) := by
              have := K0.out.set 0 (.int .u32 (IntKind.u32.wrap (s.a + A)))
              rw [HEa.out] at this ⊢
              exact this
            have HK2 : Hid (∀ v, Blk (wr.setCell ⟨w.heap.size, 0, none⟩ v) (w.heap.size + 1 + 1) (wv (zs 5))) := fun v => K2.out.setOther (by omega) _ _
            have HB2 : Hid (∀ v, Below w.heap.size w (wr.setCell ⟨w.heap.size, 0, none⟩ v)) := fun v => HB.out.setCell (Nat.le_refl _) _
            go_wp2
            exact ⟨⟨0 + 1, by omega, by go_num, HN.out, HK2.out _, HB2.out _⟩, by simp [intOf]⟩
          · have hix : ∀ x : World, (Instr.index 46 (.agg #[.int .u32 A, .int .u32 B, .int .u32 C, .int .u32 D, .int .u32 E]) (.int .i64 1)).run Tryd.prog x = .ok (.int .u32 B) x := run_index_arr 46 45 5 .u32 Tryd.underlying46 Tryd.underlying45 sizeW [.int .u32 A, .int .u32 B, .int .u32 C, .int .u32 D, .int .u32 E] 1 (by omega) (.int .u32 B) rfl
            have hc := K0.out.cell 1 (.int .u32 s.b) rfl
            have hf := K0.out.free 1
            have HN : Hid (Blk (wr.setCell ⟨w.heap.size, 1, none⟩ (.int .u32 (IntKind.u32.wrap (s.b + B)))) w.heap.size (wv (mix s (stirS s p) (1 + 1)))) := by
              have := K0.out.set 1 (.int .u32 (IntKind.u32.wrap (s.b + B)))
              rw [HEb.out] at this ⊢
              exact this
            have HK2 : Hid (∀ v, Blk (wr.setCell ⟨w.heap.size, 1, none⟩ v) (w.heap.size + 1 + 1) (wv (zs 5))) := fun v => K2.out.setOther (by omega) _ _
            have HB2 : Hid (∀ v, Below w.heap.size w (wr.setCell ⟨w.heap.size, 1, none⟩ v)) := fun v => HB.out.setCell (Nat.le_refl _) _
            go_wp2
            exact ⟨⟨1 + 1, by omega, by go_num, HN.out, HK2.out _, HB2.out _⟩, by simp [intOf]⟩
          · have hix : ∀ x : World, (Instr.index 46 (.agg #[.int .u32 A, .int .u32 B, .int .u32 C, .int .u32 D, .int .u32 E]) (.int .i64 2)).run Tryd.prog x = .ok (.int .u32 C) x := run_index_arr 46 45 5 .u32 Tryd.underlying46 Tryd.underlying45 sizeW [.int .u32 A, .int .u32 B, .int .u32 C, .int .u32 D, .int .u32 E] 2 (by omega) (.int .u32 C) rfl
            have hc := K0.out.cell 2 (.int .u32 s.c) rfl
            have hf := K0.out.free 2
            have HN : Hid (Blk (wr.setCell ⟨w.heap.size, 2, none⟩ (.int .u32 (IntKind.u32.wrap (s.c + C)))) w.heap.size (wv (mix s (stirS s p) (2 + 1)))) := by
              have := K0.out.set 2 (.int .u32 (IntKind.u32.wrap (s.c + C)))
              rw [HEc.out] at this ⊢
              exact this
            have HK2 : Hid (∀ v, Blk (wr.setCell ⟨w.heap.size, 2, none⟩ v) (w.heap.size + 1 + 1) (wv (zs 5))) := fun v => K2.out.setOther (by omega) _ _
            have HB2 : Hid (∀ v, Below w.heap.size w (wr.setCell ⟨w.heap.size, 2, none⟩ v)) := fun v => HB.out.setCell (Nat.le_refl _) _
            go_wp2
            exact ⟨⟨2 + 1, by omega, by go_num, HN.out, HK2.out _, HB2.out _⟩, by simp [intOf]⟩
          · have hix : ∀ x : World, (Instr.index 46 (.agg #[.int .u32 A, .int .u32 B, .int .u32 C, .int .u32 D, .int .u32 E]) (.int .i64 3)).run Tryd.prog x = .ok (.int .u32 D) x := run_index_arr 46 45 5 .u32 Tryd.underlying46 Tryd.underlying45 sizeW [.int .u32 A, .int .u32 B, .int .u32 C, .int .u32 D, .int .u32 E] 3 (by omega) (.int .u32 D) rfl
            have hc := K0.out.cell 3 (.int .u32 s.d) rfl
            have hf := K0.out.free 3
            have HN : Hid (Blk (wr.setCell ⟨w.heap.size, 3, none⟩ (.int .u32 (IntKind.u32.wrap (s.d + D)))) w.heap.size (wv (mix s (stirS s p) (3 + 1)))) := by
              have := K0.out.set 3 (.int .u32 (IntKind.u32.wrap (s.d + D)))
              rw [HEd.out] at this ⊢
              exact this
            have HK2 : Hid (∀ v, Blk (wr.setCell ⟨w.heap.size, 3, none⟩ v) (w.heap.size + 1 + 1) (wv (zs 5))) := fun v => K2.out.setOther (by omega) _ _
            have HB2 : Hid (∀ v, Below w.heap.size w (wr.setCell ⟨w.heap.size, 3, none⟩ v)) := fun v => HB.out.setCell (Nat.le_refl _) _
            go_wp2
            exact ⟨⟨3 + 1, by omega, by go_num, HN.out, HK2.out _, HB2.out _⟩, by simp [intOf]⟩
          · have hix : ∀ x : World, (Instr.index 46 (.agg #[.int .u32 A, .int .u32 B, .int .u32 C, .int .u32 D, .int .u32 E]) (.int .i64 4)).run Tryd.prog x = .ok (.int .u32 E) x := run_index_arr 46 45 5 .u32 Tryd.underlying46 Tryd.underlying45 sizeW [.int .u32 A, .int .u32 B, .int .u32 C, .int .u32 D, .int .u32 E] 4 (by omega) (.int .u32 E) rfl
            have hc := K0.out.cell 4 (.int .u32 s.e) rfl
            have hf := K0.out.free 4
            have HN : Hid (Blk (wr.setCell ⟨w.heap.size, 4, none⟩ (.int .u32 (IntKind.u32.wrap (s.e + E)))) w.heap.size (wv (mix s (stirS s p) (4 + 1)))) := by
              have := K0.out.set 4 (.int .u32 (IntKind.u32.wrap (s.e + E)))
              rw [HEe.out] at this ⊢
              exact this
            have HK2 : Hid (∀ v, Blk (wr.setCell ⟨w.heap.size, 4, none⟩ v) (w.heap.size + 1 + 1) (wv (zs 5))) := fun v => K2.out.setOther (by omega) _ _
            have HB2 : Hid (∀ v, Below w.heap.size w (wr.setCell ⟨w.heap.size, 4, none⟩ v)) := fun v => HB.out.setCell (Nat.le_refl _) _
            go_wp2
            exact ⟨⟨4 + 1, by omega, by go_num, HN.out, HK2.out _, HB2.out _⟩, by simp [intOf]⟩
        · obtain rfl : k = 5 := by omega
          have HX : Hid (Blk wr w.heap.size (wv (stirS s p).l)) := K0.out
          clear K0
          have HL5 : Hid ((wv (stirS s p).l).length = 5) := (rfl : (wv (stirS s p).l).length = 5)
          have HO5 : Hid (∀ v ∈ wv (stirS s p).l, v.oneCell' = true) := wv_one _
          generalize hcs : wv (stirS s p).l = rs at *
          have HCS : Hid (wv (stirS s p).l = rs) := hcs
          clear hcs
          have HZ : Hid ((wv (zs 5)).length = 5) := (by rw [wv_length]; unfold zs; simp : (wv (zs 5)).length = 5)
          have HT : Hid (wr.there (w.heap.size + 1 + 1) 0 rs.toArray.size) := K2.out.there _ (by rw [HZ.out]; simp [HL5.out])
          have HI : Hid ((Tryd.prog.info? 46).map (·.size) = some rs.toArray.size) := (by rw [List.size_toArray, HL5.out]; exact size5 : (Tryd.prog.info? 46).map (·.size) = some rs.toArray.size)
          have HA : Hid (rs.toArray.all (·.oneCell') = true) := all_oneCell_toArray HO5.out
          rw [show (((5 : Nat)) : Int) = (5 : Int) from rfl]
          go_wp2_with (first | refine wpList_load_mid rfl 46 (.tmp 2) rfl w.heap.size 0 rfl rs _ HX.out.range Tryd.underlying46 rfl (by rw [HL5.out]; exact size5) ?_ | refine wpList_store_mid rfl 46 (.tmp 4) (.tmp 105) rfl (w.heap.size + 1 + 1) 0 rs.toArray rfl rfl HT.out HI.out HA.out ?_)
          have HB4 : Hid (Below w.heap.size w (wr.setCells (w.heap.size + 1 + 1) 0 rs)) := bel_setCells HB.out (by omega) _ _
          have HRg : (wr.setCells (w.heap.size + 1 + 1) 0 rs).rangeAt (w.heap.size + 1 + 1) 0 rs := World.rangeAt_setCells_same _ _ _ _ (by have := HT.out; rwa [List.size_toArray] at this)
          have hlv := run_loadVar_mid (P := Tryd.prog) (wr.setCells (w.heap.size + 1 + 1) 0 rs) (w.heap.size + 1 + 1) 0 46 rs _ HRg Tryd.underlying46 rfl (by rw [HL5.out]; exact size5)
          refine bodyPost_ret (v := .agg rs.toArray) ?_ rfl ⟨by rw [HCS.out], HB4.out⟩
          simp [results, Tryd.results27, Act.put, asAddr, hlv]

end Bs
end Go.Proofs.YtcnjnlmjgbmjnabDoor
