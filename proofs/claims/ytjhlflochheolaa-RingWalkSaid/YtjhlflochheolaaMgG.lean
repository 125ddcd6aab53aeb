/- Several texts as one. -/
import Derived.Test.YtjhlflochheolaaMgF
import Derived.Test.YtjhlflochheolaaMgC
import Derived.Test.YtjhlflochheolaaMgE
import Derived.Test.YtjhlflochheolaaMgD
import Derived.Stop.RegionWithIn
import Derived.Laws.EntriesVeiled
import Derived.Sort.QuietIn
import Derived.Sort.QuietTacIn
import Derived.Sort.CutIn
/-
  The walk of RingWalk: what it stands on.
-/
set_option maxRecDepth 100000
set_option linter.unusedVariables false
set_option linter.unusedSimpArgs false
namespace Go.Proofs.Ytjhlflochheolaa
open Go.RowKit Go.Shelf
attribute [local go_sem] Oper.semAt_some
namespace Rg

def kdN (k n : Int) : Int := (k.tmod n + n) % n
theorem kdN_bd (k n : Int) (hn : 1 ≤ n) : 0 ≤ kdN k n ∧ kdN k n < n := by
  unfold kdN
  exact ⟨Int.emod_nonneg _ (by omega), Int.emod_lt_of_pos _ (by omega)⟩

theorem kindN_any (w : World) (k n : Int) (hk0 : -9223372036854775808 ≤ k) (hk1 : k ≤ 9223372036854775807) (hn0 : 1 ≤ n) (hn1 : n ≤ 4611686018427387903) : Calls Try.prog 9 #[.int .i64 k, .int .i64 n] w fun e w' => e = .returned (.int .i64 (kdN k n)) ∧ w' = w := by
  have h1 : -n < k.tmod n := by have := Int.lt_tmod_of_pos k (show 0 < n by omega); omega
  have h2 := Int.tmod_lt_of_pos k (show 0 < n by omega)
  have h3 : (n == 0) = false := beq_eq_false_iff_ne.2 (by omega)
  have h4 : ¬ n = 0 := by omega
  have HK : Hid (kdN k n = (k.tmod n + n) % n) := (rfl : _ = _)
  have hb := kdN_bd k n hn0
  rw [HK.out] at hb
  have hw1 : IntKind.i64.wrap (k.tmod n) = k.tmod n := by rw [IntKind.wrap_i64]; omega
  have hw2 : IntKind.i64.wrap (k.tmod n + n) = k.tmod n + n := by rw [IntKind.wrap_i64]; omega
  have hw3 : IntKind.i64.wrap ((k.tmod n + n) % n) = (k.tmod n + n) % n := by rw [IntKind.wrap_i64]; omega
  go_enter Try.func9, Try.ntmps9
  go_wp2
  go_ret
  exact ⟨by rw [HK.out]; rfl, rfl⟩

theorem ownFrom_but {β : Type} {bs : List Nat} {w0 : World} {B : Nat} (hB : w0.heap.size ≤ B) : OwnFrom B (fun (_ : β) W => But bs w0 W) := fun _ W W' row h hg hr =>
  ⟨hg.os.trans h.os, hg.tape.trans h.tape, hg.output.trans h.output, Nat.le_trans h.size hg.size, fun k hk hn => (hg.block k (Nat.lt_of_lt_of_le hk h.size) (fun e => by have := (hr k e.symm).1; omega)).trans (h.block k hk hn)⟩
theorem QP.but0 {w w' : World} {E S QT : Nat} {p : Option Addr} {bs : List Nat} {cap : Nat} {xs : List (List Value)} (H : QP w E S QT p bs cap xs) {cs : List Nat} (b : But cs w w') (hd : ∀ x, x ∈ bs → x ∉ cs) : QP w' E S QT p bs cap xs := by
  rcases H with h | ⟨qp, sv, head, n, ds, h1, rfl, H, h3⟩
  · exact .inl h
  · refine .inr ⟨qp, sv, head, n, ds, h1, rfl, ⟨b.heap H.str (hd qp (by simp)), b.owns H.own (fun g hg => hd g (by simp [hg])), H.sep, H.cap1, H.cap2, H.hn, H.hc, H.hh, H.grow⟩, h3⟩
theorem QP.cells {w : World} {E S QT : Nat} {p : Option Addr} {bs : List Nat} {cap : Nat} {xs : List (List Value)} (H : QP w E S QT p bs cap xs) : ∀ b ∈ bs, ∃ o : Obj, w.heap[b]? = some o ∧ o.isCells = true := by
  rcases H with ⟨_, rfl, _⟩ | ⟨qp, sv, head, n, cs, h1, rfl, H, h3⟩
  · intro b hb; cases hb
  · intro b hb
    rcases List.mem_cons.1 hb with rfl | hb
    · exact ⟨_, H.str, rfl⟩
    · rcases H.own.2 with ⟨rfl, _⟩ | ⟨g, cap', cur, rfl, _, hg, _⟩
      · simp [Value.ownBlock] at hb
      · have : b = g := by simpa [Value.ownBlock] using hb
        subst this
        exact ⟨_, hg, rfl⟩
theorem QP.ltq {w : World} {E S QT : Nat} {p : Option Addr} {bs : List Nat} {cap : Nat} {xs : List (List Value)} (H : QP w E S QT p bs cap xs) : ∀ b ∈ bs, b < w.heap.size := fun b hb => by
  obtain ⟨o, h, _⟩ := H.cells b hb
  exact (Array.getElem?_eq_some_iff.1 h).1
theorem keeps_but {bs : List Nat} {w w' : World} (b : But bs w w') (h : ∀ x ∈ bs, ∃ o : Obj, w.heap[x]? = some o ∧ o.isCells = true) : KeepsOthers w w' :=
  ⟨b.size, fun k o hk ho => b.heap hk (fun e => by obtain ⟨o', h1, h2⟩ := h k e; rw [hk] at h1; injection h1 with h1; subst h1; rw [ho] at h2; cases h2)⟩
theorem ownFrom_qp {β : Type} {B E S QT cap : Nat} {p : Option Addr} {f : β → List (List Value)} {bs : List Nat} : OwnFrom B (fun (s : β) W => QP W E S QT p bs cap (f s)) := fun s W W' row h hg hr => by
  refine h.but0 (cs := row.toList) ⟨hg.os, hg.tape, hg.output, hg.size, fun k hk hn => hg.block k hk (fun e => hn (by rw [← e]; simp))⟩ (fun x hx hc => ?_)
  have hc' : row = some x := by simpa using hc
  obtain ⟨o, h1, h2⟩ := h.cells x hx
  obtain ⟨_, o', h3, h4⟩ := hr x hc'
  rw [h1] at h3
  injection h3 with h3
  subst h3
  rw [h2] at h4
  cases h4
theorem boxed_but {bs : List Nat} {w w' : World} (h : But bs w w') {B t : Nat} {v : Value} (hb : Boxed w B t v) (hn : B ∉ bs) : Boxed w' B t v := h.heap hb hn
theorem but_step {QA : Nat} {bs : List Nat} {w4 wr wn : World} (h : But [QA] w4 wr) (k : But bs wr wn) (hb : ∀ b ∈ bs, b = QA ∨ w4.heap.size ≤ b) : But [QA] w4 wn :=
  ⟨k.os.trans h.os, k.tape.trans h.tape, k.output.trans h.output, Nat.le_trans h.size k.size, fun i hi hn => (k.block i (Nat.lt_of_lt_of_le hi h.size) (fun e => by
    rcases hb i e with h' | h'
    · exact hn (by rw [h']; simp)
    · omega)).trans (h.block i hi hn)⟩
/-- The pair that is due. -/
def due (zs : List Int) (j : Nat) (x : Nat × Int) : Prop := x.1 = j ∧ j < zs.length ∧ x.2 = zs[j]?.getD 0
theorem not_due {zs : List Int} {k : Nat} {pre : List (Nat × Int)} {x : Nat × Int} (hk : k ≤ zs.length) (h : pre ++ [x] = upto (fun j => (j, zs[j]?.getD 0)) k) (hn : ¬ due zs pre.length x) : False := by
  have hl := congrArg List.length h
  rw [List.length_append, upto_length, List.length_singleton] at hl
  obtain ⟨k', rfl⟩ : ∃ k', k = k' + 1 := ⟨k - 1, by omega⟩
  rw [upto_succ] at h
  have h2 := List.append_inj_right' h rfl
  injection h2 with h2 _
  apply hn
  have : pre.length = k' := by omega
  rw [h2, this]
  exact ⟨rfl, by omega, rfl⟩

/-- How a round is left: with a pair that is not due, or at the pair at which it is broken off. -/
def Ix1 (zs : List Int) (S6 R2 : Nat) (K : Int) (w7 : World) (id : Nat) (cd : Code) (pre : List (Nat × Int)) (W : World) : Prop :=
  (cd = Code.ret ∧ ∃ (p : List (Nat × Int)) (x : Nat × Int), pre = p ++ [x] ∧ ¬ due zs p.length x) ∨ (cd = Code.exit id ∧ Boxed W S6 3 (.int .i64 (pre.length : Int)) ∧ Boxed W R2 4 (.bool false) ∧ But [S6, R2] w7 W ∧ (pre.length : Int) = K + 1)
theorem ix1_own (zs : List Int) (S6 R2 : Nat) (K : Int) (w7 : World) (id : Nat) (cd : Code) : OwnFrom w7.heap.size (Ix1 zs S6 R2 K w7 id cd) := fun s X Y row hh hg hr => by
  rcases hh with h | ⟨e, hb, hb2, hbt, hk⟩
  · exact .inl h
  · exact .inr ⟨e, (Own.from (boxed_own S6 3 (fun pre : List (Nat × Int) => Value.int .i64 (pre.length : Int))) w7.heap.size) s X Y row hb hg hr, (Own.from (boxed_own (β := Unit) R2 4 (fun _ => Value.bool false)) w7.heap.size) () X Y row hb2 hg hr, (ownFrom_but (β := Unit) (bs := [S6, R2]) (w0 := w7) (Nat.le_refl _)) () X Y row hbt hg hr, hk⟩

end Rg
end Go.Proofs.Ytjhlflochheolaa

/-
  The walk of RingWalk.
-/
set_option maxRecDepth 100000
set_option linter.unusedVariables false
set_option linter.unusedSimpArgs false
namespace Go.Proofs.Ytjhlflochheolaa
open Go.RowKit Go.Shelf Go.BigFrame
attribute [local go_sem] Oper.semAt_some
namespace Rg

def els (zs : List Int) : List (List Value) := zs.map fun z => [Value.int .i64 z]
theorem els_snoc {zs : List Int} {k : Nat} (h : k < zs.length) : els (zs.take k) ++ [[Value.int .i64 (zs[k]?.getD 0)]] = els (zs.take (k + 1)) := by
  unfold els
  rw [List.take_add_one, List.getElem?_eq_getElem h, List.map_append]
  rfl
theorem els_len (zs : List Int) : (els zs).length = zs.length := by unfold els; simp

theorem but_on {L L' : List Nat} {x y z : World} (h : But L x y) (k : But L' y z) (hs : ∀ b ∈ L', b ∈ L ∨ x.heap.size ≤ b) : But L x z :=
  ⟨k.os.trans h.os, k.tape.trans h.tape, k.output.trans h.output, Nat.le_trans h.size k.size, fun i hi hn => (k.block i (Nat.lt_of_lt_of_le hi h.size) (fun e => by
    rcases hs i e with h' | h'
    · exact hn h'
    · omega)).trans (h.block i hi hn)⟩
theorem els_cons {zs : List Int} (h : 1 ≤ zs.length) (R : List (List Value)) : els zs ++ R = [Value.int .i64 (zs[0]?.getD 0)] :: (els (zs.drop 1) ++ R) := by
  cases zs with
  | nil => simp at h
  | cons z t => simp [els]

/-- The queue under the second loop: emptied from the first round on. -/
def QS (QA cap : Nat) (bs9 : List Nat) (pre : List (Nat × Int)) (W : World) : Prop := ∃ b ys, QP W 3 1 92 (some ⟨QA, 0, none⟩) b cap ys ∧ (∀ x ∈ b, x ∈ bs9) ∧ (pre ≠ [] → ys = [])
theorem qs_own {B QA cap : Nat} {bs9 : List Nat} : OwnFrom B (QS QA cap bs9) := fun s W W' row h hg hr => by
  obtain ⟨b, ys, h1, h2, h3⟩ := h
  exact ⟨b, ys, (ownFrom_qp (β := Unit) (f := fun _ => ys)) () W W' row h1 hg hr, h2, h3⟩
def IxR (zs : List Int) (cd : Code) (pre : List (Nat × Int)) (_ : World) : Prop := cd = Code.ret ∧ ∃ (p : List (Nat × Int)) (x : Nat × Int), pre = p ++ [x] ∧ ¬ due zs p.length x
theorem ixr_own {B : Nat} (zs : List Int) (cd : Code) : OwnFrom B (IxR zs cd) := fun _ _ _ _ h _ _ => h
theorem below_but {n : Nat} {L : List Nat} {w x y : World} (h : Below n w x) (k : But L x y) (hL : ∀ b ∈ L, n ≤ b) (hn : n ≤ x.heap.size) : Below n w y :=
  h.trans ⟨k.os, k.tape, k.output, k.size, fun i hi => k.block i (Nat.lt_of_lt_of_le hi hn) (fun e => by have := hL i e; omega)⟩
theorem keep_but {b : Nat} {L : List Nat} {x y : World} (k : But L x y) (hb : b < x.heap.size) (hn : b ∉ L) : Keep b x y := k.block b hb hn

set_option maxHeartbeats 8000000 in
theorem walk_RingWalk (v : Value) (leave more : Int) (zs : List Int) (w : World) (h : RdI w v zs) (hzs : zs.length ≤ 9223372036854775807) (hl0 : -9223372036854775808 ≤ leave) (hl1 : leave ≤ 9223372036854775807) (hm0 : -9223372036854775808 ≤ more) (hm1 : more ≤ 9223372036854775807) :
    Calls Try.prog 5 #[v, .int .i64 leave, .int .i64 more] w fun e w' => e = .returned (.bool true) ∧ Below w.heap.size w w' := by
  obtain ⟨a, c, rfl, hcap, _, hz, hcell⟩ := h
  have HCell : Hid (zs = [] ∨ ∃ g o, a = some ⟨g, o, none⟩ ∧ ∀ j x, zs[j]? = some x → w.cell? ⟨g, o + j, none⟩ = some (.int .i64 x)) := hcell
  have HZ : Hid (∀ x ∈ zs, -9223372036854775808 ≤ x ∧ x ≤ 9223372036854775807) := hz
  clear hcell hz
  obtain ⟨W0, hW0⟩ : ∃ W0, W0 = ((w.alloc (.cells #[.slice a zs.length c] 59)).alloc (.cells #[.int .i64 leave] 3)).alloc (.cells #[.bool false] 4) := ⟨_, rfl⟩
  have hB0 : Below w.heap.size w W0 := by rw [hW0]; exact (((Below.refl _ w).alloc (Nat.le_refl _) _).alloc (by simp) _).alloc (by simp; omega) _
  have bV : Boxed W0 w.heap.size 59 (.slice a zs.length c) := by rw [hW0]; exact ((Boxed.new w _ _).alloc _).alloc _
  have bL : Boxed W0 (w.heap.size + 1) 3 (.int .i64 leave) := by
    rw [hW0]
    have := (Boxed.new (w.alloc (.cells #[.slice a zs.length c] 59)) 3 (.int .i64 leave)).alloc (.cells #[.bool false] 4)
    rwa [World.size_alloc] at this
  have bR : Boxed W0 (w.heap.size + 1 + 1) 4 (.bool false) := by
    rw [hW0]
    have := Boxed.new ((w.alloc (.cells #[.slice a zs.length c] 59)).alloc (.cells #[.int .i64 leave] 3)) 4 (.bool false)
    rwa [World.size_alloc, World.size_alloc] at this
  have hs0 : W0.heap.size = w.heap.size + 3 := by rw [hW0]; simp
  have HSt : Hid (Calls Try.prog 16 #[] W0 fun e w' => e = .returned (.bool true) ∧ Below W0.heap.size W0 w') := steady_any W0
  have HB0 : Hid (Below w.heap.size w W0) := hB0
  clear hB0
  refine (callsIn_wide (n := 8)).1 ?_
  refine callsIn_of_wp_marks Try.func5 rfl trivial ?_ rfl
  simp only [Try.ntmps5, List.size_toArray, List.length_cons, List.length_nil, Nat.reduceAdd, Nat.reduceSub, Array.replicate_succ, Array.replicate_zero, List.push_toArray, List.append_toArray, List.nil_append, List.cons_append]
  gi_wp2_with fail
  rw [← hW0]
  clear hW0
  refine ⟨trivial, ?_⟩
  refine (callsIn_wide.2 HSt.out).mono ?_
  rintro e w1 ⟨rfl, hb1⟩
  have HB1 : Hid (Below w.heap.size w w1) := bel_trans HB0.out hb1
  have bV1 : Boxed w1 w.heap.size 59 (.slice a zs.length c) := (hb1.block _ (by omega)).trans bV
  have bL1 : Boxed w1 (w.heap.size + 1) 3 (.int .i64 leave) := (hb1.block _ (by omega)).trans bL
  have bR1 : Boxed w1 (w.heap.size + 1 + 1) 4 (.bool false) := (hb1.block _ (by omega)).trans bR
  have hs1 : w.heap.size + 3 ≤ w1.heap.size := by have := hb1.size; omega
  have cV := bV1.cell
  have lV := bV1.lt
  have lR := bR1.lt
  have fR := bR1.frozen
  have cR := bR1.cell
  clear hb1 bV bL bR HSt HB0 hs0
  by_cases hgood : 1 ≤ zs.length ∧ zs.length ≤ 300
  case neg =>
    rcases (by omega : zs.length < 1 ∨ (¬ zs.length < 1 ∧ 300 < zs.length)) with e1 | ⟨e1, e2⟩
    · have e1i : (zs.length : Int) < 1 := by omega
      have hc : ((w1.setCell ⟨w.heap.size + 1 + 1, 0, none⟩ (.bool true)).alloc (.cells #[.int .i64 (zs.length : Int)] 3)).cell? ⟨w.heap.size + 1 + 1, 0, none⟩ = some (.bool true) := ((bR1.set (.bool true)).alloc _).cell
      have hbb : Below w.heap.size w ((w1.setCell ⟨w.heap.size + 1 + 1, 0, none⟩ (.bool true)).alloc (.cells #[.int .i64 (zs.length : Int)] 3)) := (HB1.out.setCell (p := ⟨w.heap.size + 1 + 1, 0, none⟩) (by simp; omega) _).alloc (by simp; omega) _
      gi_wp2
      refine ⟨.bool true, ?_, rfl, hbb⟩
      simp [results, Try.results5, go_sem, hc]
    · have e1i : ¬ (zs.length : Int) < 1 := by omega
      have e2i : (300 : Int) < (zs.length : Int) := by omega
      have hc : ((w1.setCell ⟨w.heap.size + 1 + 1, 0, none⟩ (.bool true)).alloc (.cells #[.int .i64 (zs.length : Int)] 3)).cell? ⟨w.heap.size + 1 + 1, 0, none⟩ = some (.bool true) := ((bR1.set (.bool true)).alloc _).cell
      have hbb : Below w.heap.size w ((w1.setCell ⟨w.heap.size + 1 + 1, 0, none⟩ (.bool true)).alloc (.cells #[.int .i64 (zs.length : Int)] 3)) := (HB1.out.setCell (p := ⟨w.heap.size + 1 + 1, 0, none⟩) (by simp; omega) _).alloc (by simp; omega) _
      gi_wp2
      refine ⟨.bool true, ?_, rfl, hbb⟩
      simp [results, Try.results5, go_sem, hc]
  obtain ⟨g1, g2⟩ := hgood
  have g1i : ¬ (zs.length : Int) < 1 := by omega
  have g2i : ¬ (300 : Int) < (zs.length : Int) := by omega
  have hd1 : decide ((zs.length : Int) < 1) = false := decide_eq_false g1i
  have hd2 : decide ((300 : Int) < (zs.length : Int)) = false := decide_eq_false g2i
  gi_wp2_with fail
  refine ⟨trivial, ?_⟩
  obtain ⟨w2, hw2⟩ : ∃ w2, w2 = w1.alloc (Obj.cells #[Value.int IntKind.i64 (zs.length : Int)] 3) := ⟨_, rfl⟩
  have hb2 : Below w1.heap.size w1 w2 := by rw [hw2]; exact (Below.refl _ w1).alloc (Nat.le_refl _) _
  have bN2 : Boxed w2 w1.heap.size 3 (.int .i64 (zs.length : Int)) := by rw [hw2]; exact Boxed.new w1 _ _
  rw [← hw2]
  have hz2 : w2.heap.size = w1.heap.size + 1 := by rw [hw2]; simp
  clear hw2
  refine (callsIn_wide.2 (qNew_I w2 ((zs.length : Int) + 1) (by omega) (by omega))).mono ?_
  rintro e w3 ⟨p, bs, cap, EE, rfl, hnew, hq, hb3⟩
  rcases hnew with ⟨_, _, rfl, hcap3, hp, hbs⟩ | ⟨hbad, _⟩
  case inr => omega
  obtain rfl : cap = zs.length + 1 := by omega
  subst hp hbs
  obtain ⟨w4, hw4⟩ : ∃ w4, w4 = w3.alloc (Obj.cells #[Value.pointer (some ⟨w2.heap.size, 0, none⟩)] 63) := ⟨_, rfl⟩
  have hb4 : Below w3.heap.size w3 w4 := by rw [hw4]; exact (Below.refl _ w3).alloc (Nat.le_refl _) _
  have bQ4 : Boxed w4 w3.heap.size 63 (.pointer (some ⟨w2.heap.size, 0, none⟩)) := by rw [hw4]; exact Boxed.new w3 _ _
  have hz4 : w4.heap.size = w3.heap.size + 1 := by rw [hw4]; simp
  have hqlt := hq.ltq w2.heap.size (by simp)
  have HB4 : Hid (Below w.heap.size w w4) := bel_trans HB1.out (bel_trans hb2 (bel_trans hb3 hb4))
  have hb14 : Below w1.heap.size w1 w4 := bel_trans hb2 (bel_trans hb3 hb4)
  have HQ4 : Hid (QP w4 3 1 92 (some ⟨w2.heap.size, 0, none⟩) [w2.heap.size] (zs.length + 1) (els (zs.take 0))) := hq.below hb4
  have bN4 : Boxed w4 w1.heap.size 3 (.int .i64 (zs.length : Int)) := ((bel_trans hb3 hb4).block _ (by omega)).trans bN2
  have bV4 := (hb14.block _ bV1.lt).trans bV1
  have bL4 := (hb14.block _ bL1.lt).trans bL1
  have bR4 := (hb14.block _ bR1.lt).trans bR1
  have BX4 : Hid ((Boxed w4 w.heap.size 59 (.slice a zs.length c) ∧ Boxed w4 (w.heap.size + 1) 3 (.int .i64 leave) ∧ Boxed w4 (w.heap.size + 1 + 1) 4 (.bool false)) ∧ Boxed w4 w1.heap.size 3 (.int .i64 (zs.length : Int)) ∧ Boxed w4 w3.heap.size 63 (.pointer (some ⟨w2.heap.size, 0, none⟩))) := ⟨⟨bV4, bL4, bR4⟩, bN4, bQ4⟩
  have cV3 : w3.cell? ⟨w.heap.size, 0, none⟩ = some (.slice a zs.length c) := Boxed.cell (((bel_trans hb2 hb3).block _ bV1.lt).trans bV1)
  have lV3 : w.heap.size < w3.heap.size := World.block_lt_of_cell? _ _ cV3
  have HO : Hid (w.heap.size + 3 ≤ w1.heap.size ∧ w1.heap.size < w2.heap.size ∧ w2.heap.size < w3.heap.size ∧ w4.heap.size = w3.heap.size + 1) := (⟨hs1, by omega, hqlt, hz4⟩ : _ ∧ _ ∧ _ ∧ _)
  have HW4 : Hid (w4 = w3.alloc (Obj.cells #[Value.pointer (some ⟨w2.heap.size, 0, none⟩)] 63)) := hw4
  clear bV1 bL1 bR1 bN2 hq hb2 hb3 hb4 hb14 HB1 cV cR fR hcap3 hw4 hz4 hz2 hqlt bQ4 bN4 bV4 bL4 bR4 lV lR hs1
  generalize w2.heap.size = QA at *
  generalize w1.heap.size = BN at *
  gi_wp2_with fail
  rw [← HW4.out]
  clear HW4 cV3 lV3
  gi_loopw [47] (fun i wr => ∃ (k : Nat) (bs : List Nat), k ≤ zs.length ∧ i = .int .i64 k ∧ Hid (QP wr 3 1 92 (some ⟨QA, 0, none⟩) bs (zs.length + 1) (els (zs.take k))) ∧ Hid (∀ b ∈ bs, b = QA ∨ w4.heap.size ≤ b) ∧ Hid (But [QA] w4 wr)) (fun i _ => zs.length - (intOf i).toNat)
  case atStart => exact ⟨0, [QA], Nat.zero_le _, rfl, HQ4, (fun b hb => .inl (by simpa using hb) : ∀ b ∈ [QA], b = QA ∨ w4.heap.size ≤ b), But.refl _ _⟩
  case round =>
    clear HQ4
    obtain ⟨k, bs, hk, rfl, HQ, HI, HBt⟩ := hrel
    have bQr : Boxed wr w3.heap.size 63 (.pointer (some ⟨QA, 0, none⟩)) := boxed_but HBt.out BX4.out.2.2 (by have := HO.out; simp; omega)
    by_cases hlt : k < zs.length
    · obtain ⟨g, o, ha, hc⟩ : ∃ g o, a = some ⟨g, o, none⟩ ∧ w.cell? ⟨g, o + k, none⟩ = some (.int .i64 (zs[k]?.getD 0)) := by
        rcases HCell.out with e | ⟨g, o, ha, hc⟩
        · rw [e] at hlt; simp at hlt
        · exact ⟨g, o, ha, hc k _ (by rw [List.getElem?_eq_getElem hlt]; rfl)⟩
      subst ha
      have hglt : g < w.heap.size := World.block_lt_of_cell? _ _ hc
      have ck : wr.cell? ⟨g, o + k, none⟩ = some (.int .i64 (zs[k]?.getD 0)) := HBt.out.cell ((HB4.out.cell (p := ⟨g, o + k, none⟩) hglt).trans hc) (by have := HO.out; simp; omega)
      have HS : Hid (els (zs.take k) ++ [[Value.int .i64 (zs[k]?.getD 0)]] = els (zs.take (k + 1))) := els_snoc hlt
      have HLn : Hid ((els (zs.take k)).length < zs.length + 1) := (by rw [els_len, List.length_take]; omega : _ < _)
      have hki : (k : Int) < (zs.length : Int) := by omega
      have cQ := bQr.cell
      generalize zs[k]?.getD 0 = x at *
      gi_wp2_with fail
      refine ⟨trivial, ?_⟩
      refine (callsIn_wide.2 (qPush_I HQ.out x HLn.out)).mono ?_
      rintro e w5 ⟨rfl, bs5, hq5, hin5, hb5⟩
      rw [HS.out] at hq5
      have HQ5 : Hid (QP w5 3 1 92 (some ⟨QA, 0, none⟩) bs5 (zs.length + 1) (els (zs.take (k + 1)))) := hq5
      have HI5 : Hid (∀ b ∈ bs5, b = QA ∨ w4.heap.size ≤ b) := fun b hb => by
        rcases hin5 b hb with h | h
        · exact HI.out b h
        · exact .inr (Nat.le_trans HBt.out.size h)
      have HB5 : Hid (But [QA] w4 w5) := but_step HBt.out hb5 HI.out
      clear hq5 hin5 hb5
      gi_wp2
      go_roundw
      case rel => exact ⟨k + 1, bs5, by omega, by go_num, HQ5, HI5, HB5⟩
      case measure => simp [intOf]; omega
    · obtain rfl : k = zs.length := by omega
      rw [List.take_length] at HQ
      have hki : ¬ (zs.length : Int) < (zs.length : Int) := by omega
      have cQ := bQr.cell
      have HA : Hid (_) := qAll_I zs HQ.out
      gi_wp2_with fail
      refine ⟨trivial, ?_⟩
      refine (callsIn_wide.2 HA.out).mono ?_
      rintro e w5 ⟨Bs, bl, sv, rfl, hBs, hBs5, hcB, hb0, hb1, hL, hb5⟩
      clear HA
      have hBt5 : But [QA] w4 w5 := HBt.out.trans (But.of_below hb5).nil
      have HQ5 : Hid (QP w5 3 1 92 (some ⟨QA, 0, none⟩) bs (zs.length + 1) (els zs)) := HQ.out.below hb5
      have hqn : ∀ (k : Nat) (cs : Array Value) (W : World), (binOp .eql 68 (.func (.func k) #[] cs) .nilFunc).run Try.prog W = .ok (.bool false) W := fun k cs W => by kernel_rfl
      obtain ⟨w7, hw7⟩ : ∃ w7, w7 = (w5.alloc (Obj.cells #[Value.func (Fn.func 49) #[] #[Value.pointer (some ⟨Bs, 0, none⟩)]] 68)).alloc (Obj.cells #[Value.int IntKind.i64 0] 3) := ⟨_, rfl⟩
      have hb57 : Below w5.heap.size w5 w7 := by rw [hw7]; exact ((Below.refl _ w5).alloc (Nat.le_refl _) _).alloc (by simp) _
      have bF7 : Boxed w7 w5.heap.size 68 (Value.func (Fn.func 49) #[] #[Value.pointer (some ⟨Bs, 0, none⟩)]) := by rw [hw7]; exact (Boxed.new w5 _ _).alloc _
      have bS7 : Boxed w7 (w5.heap.size + 1) 3 (.int .i64 0) := by
        rw [hw7]
        have := Boxed.new (w5.alloc (Obj.cells #[Value.func (Fn.func 49) #[] #[Value.pointer (some ⟨Bs, 0, none⟩)]] 68)) 3 (.int .i64 0)
        rwa [World.size_alloc] at this
      have hz7 : w7.heap.size = w5.heap.size + 2 := by rw [hw7]; simp
      have HW7 : Hid (w7 = (w5.alloc (Obj.cells #[Value.func (Fn.func 49) #[] #[Value.pointer (some ⟨Bs, 0, none⟩)]] 68)).alloc (Obj.cells #[Value.int IntKind.i64 0] 3)) := hw7
      have hBt7 : But [QA] w4 w7 := hBt5.trans (But.of_below hb57).nil
      have HQ7 : Hid (QP w7 3 1 92 (some ⟨QA, 0, none⟩) bs (zs.length + 1) (els zs)) := HQ5.out.below hb57
      have hL7 : Lies_I bl w7 sv zs := hL.keep (Keep.below hb57 hb1)
      have hcB7 : w7.cell? ⟨Bs, 0, none⟩ = some sv := (hb57.cell (p := ⟨Bs, 0, none⟩) hBs5).trans hcB
      have hBs7 : Bs < w7.heap.size := by omega
      have hbl7 : bl < w7.heap.size := by omega
      have HBt7 : Hid (But [QA] w4 w7) := hBt7
      have HL7 : Hid (Lies_I bl w7 sv zs) := hL7
      have HcB7 : Hid (w7.cell? ⟨Bs, 0, none⟩ = some sv) := hcB7
      have HlB7 : Hid (Bs < w7.heap.size ∧ bl < w7.heap.size ∧ wr.heap.size ≤ Bs ∧ wr.heap.size ≤ bl ∧ w4.heap.size ≤ wr.heap.size ∧ wr.heap.size ≤ w5.heap.size ∧ w7.heap.size = w5.heap.size + 2 ∧ Bs < w5.heap.size ∧ bl < w5.heap.size) := (⟨hBs7, hbl7, hBs, hb0, HBt.out.size, hb5.size, hz7, hBs5, hb1⟩ : _)
      have Hbs7 : Hid (∀ b ∈ bs, b < wr.heap.size) := HQ.out.ltq
      clear hw7 hb57 hBt5 hBt7 hL hL7 hcB hcB7 hBs hBs5 hBs7 hbl7 hb0 hb1 hb5 hz7 HQ5 HQ HBt
      gi_wp2_with fail
      rw [← HW7.out]
      clear HW7
      obtain ⟨hK0, hK1⟩ := kdN_bd leave (zs.length : Int) (by omega)
      have HKd : Hid (∀ W, Calls Try.prog 9 #[.int .i64 leave, .int .i64 (zs.length : Int)] W fun e w' => e = .returned (.int .i64 (kdN leave (zs.length : Int))) ∧ w' = W) := fun W => kindN_any W leave (zs.length : Int) hl0 hl1 (by omega) (by omega)
      generalize kdN leave (zs.length : Int) = K at *
      have hO := HO.out
      have hl7 := HlB7.out
      have HBX7 : Hid (Boxed w7 w.heap.size 59 (.slice a zs.length c) ∧ Boxed w7 (w.heap.size + 1) 3 (.int .i64 leave) ∧ Boxed w7 (w.heap.size + 1 + 1) 4 (.bool false) ∧ Boxed w7 BN 3 (.int .i64 (zs.length : Int)) ∧ Boxed w7 w3.heap.size 63 (.pointer (some ⟨QA, 0, none⟩))) :=
        (⟨boxed_but HBt7.out BX4.out.1.1 (by simp; omega), boxed_but HBt7.out BX4.out.1.2.1 (by simp; omega), boxed_but HBt7.out BX4.out.1.2.2 (by simp; omega), boxed_but HBt7.out BX4.out.2.1 (by simp; omega), boxed_but HBt7.out BX4.out.2.2 (by simp; omega)⟩ : _)
      have HVal : Hid (∀ j, j < zs.length → ∃ g o, a = some ⟨g, o, none⟩ ∧ g < w.heap.size ∧ w7.cell? ⟨g, o + j, none⟩ = some (.int .i64 (zs[j]?.getD 0))) := fun j hj => by
        rcases HCell.out with e | ⟨g, o, ha, hc⟩
        · rw [e] at hj; simp at hj
        · have hc' := hc j _ (by rw [List.getElem?_eq_getElem hj])
          have hg : g < w.heap.size := World.block_lt_of_cell? _ _ hc'
          refine ⟨g, o, ha, hg, ?_⟩
          rw [List.getElem?_eq_getElem hj]
          exact HBt7.out.cell ((HB4.out.cell (p := ⟨g, o + j, none⟩) hg).trans hc') (by simp; omega)
      clear hO hl7
      refine wpIn_rangeFunc_ownH rfl (by omega) (gf := 49) (lb := #[.pointer (some ⟨Bs, 0, none⟩)]) rfl trivial (enters_of Try.func49 (by kernel_rfl) rfl)
        (all_stops_I Fence.wide 7 trivial rfl (by omega) Bs bl sv zs (by omega) w7 HlB7.out.1 HlB7.out.2.1 HcB7.out HL7.out) keepK_t (keepK_b HlB7.out.2.1) (Below.refl _ _) (fun _ => rfl)
        (fun (pre : List (Nat × Int)) W => (Boxed W (w5.heap.size + 1) 3 (.int .i64 (pre.length : Int)) ∧ Boxed W (w.heap.size + 1 + 1) 4 (.bool false)) ∧ (But [w5.heap.size + 1, w.heap.size + 1 + 1] w7 W ∧ (pre.length : Int) ≤ K))
        (Ix1 zs (w5.heap.size + 1) (w.heap.size + 1 + 1) K w7 2)
        (OwnFrom.and (OwnFrom.and (Own.from (boxed_own _ _ (fun pre : List (Nat × Int) => Value.int .i64 (pre.length : Int))) _) (Own.from (boxed_own _ _ (fun _ : List (Nat × Int) => Value.bool false)) _)) (OwnFrom.and (ownFrom_but (Nat.le_refl _)) (ownFrom_pure _ (fun pre : List (Nat × Int) => (pre.length : Int) ≤ K))))
        (ix1_own zs (w5.heap.size + 1) (w.heap.size + 1 + 1) K w7 2)
        ⟨⟨bS7, HBX7.out.2.2.1⟩, But.refl _ _, hK0⟩
        (fun (x : Nat × Int) a' (_ : World) => a' = { tmps := #[Value.slice a zs.length c, Value.int IntKind.i64 leave, Value.int IntKind.i64 more, Value.pointer (some { block := w.heap.size, off := 0 }), Value.pointer (some { block := w.heap.size + 1, off := 0 }), undef, Value.pointer (some { block := w.heap.size + 1 + 1, off := 0 }), Value.pointer (some { block := BN, off := 0 }), Value.pointer (some { block := w3.heap.size, off := 0 }), Value.int IntKind.i64 0, undef, u11, Value.pointer (some { block := w5.heap.size, off := 0 }), Value.pointer (some { block := w5.heap.size + 1, off := 0 }), Value.int IntKind.i64 (x.1 : Int), Value.int IntKind.i64 x.2, undef, undef, undef, undef, undef, undef, undef, Value.bool true, Value.bool false, Value.slice a zs.length c, Value.int IntKind.i64 ↑zs.length, Value.int IntKind.i64 ↑zs.length, Value.bool false, Value.bool false, Value.int IntKind.i64 ↑zs.length, Value.bool false, Value.bool false, Value.tuple #[Value.pointer (some { block := QA, off := 0 }), Value.int IntKind.i64 0], Value.int IntKind.i64 ↑zs.length, Value.int IntKind.i64 (↑zs.length + 1), Value.tuple #[Value.pointer (some { block := QA, off := 0 }), Value.int IntKind.i64 0], Value.pointer (some { block := QA, off := 0 }), Value.int IntKind.i64 0, Value.int IntKind.i64 0, Value.bool false, Value.bool false, Value.pointer (some { block := QA, off := 0 }), Value.bool false, Value.bool false, Value.slice a zs.length c, Value.int IntKind.i64 ↑zs.length, Value.int IntKind.i64 ↑zs.length, Value.bool false, u49, u50, u51, u52, u53, u54, u55, Value.pointer (some { block := QA, off := 0 }), Value.func (Fn.func 49) #[] #[Value.pointer (some { block := Bs, off := 0 })], Value.func (Fn.func 49) #[] #[Value.pointer (some { block := Bs, off := 0 })], Value.bool false, Value.func (Fn.func 49) #[] #[Value.pointer (some { block := Bs, off := 0 })], Value.int IntKind.i64 (x.1 : Int), Value.int IntKind.i64 x.2, undef, undef, undef, undef, undef, undef, undef, undef, undef, undef, undef, undef, undef, undef, undef, undef, undef, undef, undef, undef, undef, undef, undef, undef, undef, undef, undef, undef, undef, undef, undef, undef, undef, undef, undef, undef, undef, undef, undef, undef, undef, undef, undef, undef, undef, undef, undef, undef, undef, undef, undef, undef, undef, undef, undef, undef, undef, undef, undef, undef, undef, undef, undef, undef, undef, undef, undef, undef, undef, undef, undef, undef, undef, undef, undef, undef, undef, undef, undef, undef, undef, undef, undef, undef, undef, undef, undef, undef, undef, undef, undef, undef, undef, undef, undef, undef, undef, undef, undef, undef, undef], defers := [] })
        (fun _ _ _ _ _ _ hs _ _ => hs)
        ?assign ?body ?done ?stop
      case assign =>
        rintro l pre x W K' hi hK'
        gi_wp2
        exact hK' _ _ (KeepsFrom.refl _ _) (Keep.refl _ _) hi rfl
      case body =>
        rintro l pre ⟨xi, xv⟩ a' W hl hlr ⟨⟨hS, hR⟩, hBt, hKl⟩ rfl hlt
        have hO := HO.out
        have hl7 := HlB7.out
        have hb7 := HBX7.out
        have vV := (boxed_but hBt hb7.1 (by simp; omega)).cell
        have vL := (boxed_but hBt hb7.2.1 (by simp; omega)).cell
        have vN := (boxed_but hBt hb7.2.2.2.1 (by simp; omega)).cell
        have vS := hS.cell
        have fS := hS.frozen
        have vR := hR.cell
        have fR := hR.frozen
        obtain ⟨g, o, ha, hg, hcv⟩ := HVal.out pre.length hlt
        subst ha
        have vC : W.cell? ⟨g, o + pre.length, none⟩ = some (.int .i64 (zs[pre.length]?.getD 0)) := hBt.cell hcv (by simp; omega)
        have HSz : Hid (w7.heap.size ≤ W.heap.size) := hBt.size
        have HBW : Hid (But [w5.heap.size + 1, w.heap.size + 1 + 1] w7 W) := hBt
        have HSR : Hid (w5.heap.size + 1 ≠ w.heap.size + 1 + 1) := (by omega : _ ≠ _)
        have HLS : Hid (w.heap.size ≠ w5.heap.size ∧ BN ≠ w5.heap.size + 1) := (⟨by omega, by omega⟩ : _ ∧ _)
        have HbS : Hid (bl ≠ w5.heap.size + 1) := (by omega : _ ≠ _)
        have HSb : Hid (Boxed W (w5.heap.size + 1) 3 (.int .i64 (pre.length : Int))) := hS
        have HRb : Hid (Boxed W (w.heap.size + 1 + 1) 4 (.bool false)) := hR
        clear hO hl7 hb7 hBt hcv hg hS hR
        by_cases h1 : xi = pre.length
        · subst h1
          have hii : ((pre.length : Int) != (pre.length : Int)) = false := by simp
          have hin : ¬ (zs.length : Int) ≤ (pre.length : Int) := by omega
          have hlti : (pre.length : Int) < (zs.length : Int) := by omega
          by_cases h2 : xv = zs[pre.length]?.getD 0
          · have hdue : Hid (due zs pre.length (pre.length, xv)) := (⟨rfl, hlt, h2⟩ : due zs pre.length (pre.length, xv))
            rw [← h2] at vC
            have hvv : (xv != xv) = false := by simp
            have hW1 : Boxed (W.setCell ⟨w5.heap.size + 1, 0, none⟩ (.int .i64 ((pre.length : Int) + 1))) (w5.heap.size + 1) 3 (.int .i64 ((pre.length : Int) + 1)) := HSb.out.set _
            have hR1 : Boxed (W.setCell ⟨w5.heap.size + 1, 0, none⟩ (.int .i64 ((pre.length : Int) + 1))) (w.heap.size + 1 + 1) 4 (.bool false) := HRb.out.other (fun e => HSR.out e.symm) _
            have HW1 : Hid (Boxed (W.setCell ⟨w5.heap.size + 1, 0, none⟩ (.int .i64 ((pre.length : Int) + 1))) (w5.heap.size + 1) 3 (.int .i64 ((pre ++ [(pre.length, xv)]).length : Int))) := (by rw [List.length_append]; exact hW1 : Boxed _ _ _ _)
            have HR1 : Hid (Boxed (W.setCell ⟨w5.heap.size + 1, 0, none⟩ (.int .i64 ((pre.length : Int) + 1))) (w.heap.size + 1 + 1) 4 (.bool false)) := hR1
            have HB1 : Hid (But [w5.heap.size + 1, w.heap.size + 1 + 1] w7 (W.setCell ⟨w5.heap.size + 1, 0, none⟩ (.int .i64 ((pre.length : Int) + 1)))) := HBW.out.setCell (p := ⟨w5.heap.size + 1, 0, none⟩) (by simp) _
            have vL1 : (W.setCell ⟨w5.heap.size + 1, 0, none⟩ (.int .i64 ((pre.length : Int) + 1))).cell? ⟨w.heap.size + 1, 0, none⟩ = some (.int .i64 leave) := ((But.refl [w5.heap.size + 1] W).setCell (p := ⟨w5.heap.size + 1, 0, none⟩) (by simp) _).cell vL (by simp; exact fun e => HLS.out.1 e)
            have vN1 : (W.setCell ⟨w5.heap.size + 1, 0, none⟩ (.int .i64 ((pre.length : Int) + 1))).cell? ⟨BN, 0, none⟩ = some (.int .i64 (zs.length : Int)) := ((But.refl [w5.heap.size + 1] W).setCell (p := ⟨w5.heap.size + 1, 0, none⟩) (by simp) _).cell vN (by simp; exact fun e => HLS.out.2 e)
            have HKp : Hid (Keep bl W (W.setCell ⟨w5.heap.size + 1, 0, none⟩ (.int .i64 ((pre.length : Int) + 1)))) := (Below.heap_setCell _ _ _ _ (fun e => HbS.out e) : _ = _)
            clear hW1 hR1 h2
            gi_wp2_with fail
            refine ⟨trivial, ?_⟩
            refine ((callsIn_wide.2 (HKd.out _)).inRound l).mono ?_
            rintro e w8 ⟨rfl, rfl⟩
            by_cases hk : (pre.length : Int) = K
            · have hki : ((pre.length : Int) == K) = true := by simpa using hk
              have HKe : Hid (((pre ++ [(pre.length, xv)]).length : Int) = K + 1) := (by rw [List.length_append, ← hk]; simp : _ = _)
              clear hk
              gi_wp2
              exact ⟨(KeepsOthers.setCell _ _ _).from _, .inr ⟨rfl, HW1.out, HR1.out, HB1.out, HKe.out⟩⟩
            · have hki : ((pre.length : Int) == K) = false := by simpa using hk
              have HKe : Hid (((pre ++ [(pre.length, xv)]).length : Int) ≤ K) := (by rw [List.length_append]; simp; omega : _ ≤ _)
              clear hk
              gi_wp2
              exact ⟨(KeepsOthers.setCell _ _ _).from _, HKp.out, ⟨HW1.out, HR1.out⟩, HB1.out, HKe.out⟩
          · have hnd : Hid (¬ due zs pre.length (pre.length, xv)) := fun h => h2 h.2.2
            have hvv : (xv != zs[pre.length]?.getD 0) = true := by simpa using h2
            generalize zs[pre.length]?.getD 0 = y at *
            gi_wp2
            exact ⟨(KeepsOthers.setCell _ _ _).from _, .inl ⟨rfl, pre, (pre.length, xv), rfl, hnd.out⟩⟩
        · have hnd : Hid (¬ due zs pre.length (xi, xv)) := fun h => h1 h.1
          have hii : ((xi : Int) != (pre.length : Int)) = true := by simp; omega
          gi_wp2
          exact ⟨(KeepsOthers.setCell _ _ _).from _, .inl ⟨rfl, pre, (xi, xv), rfl, hnd.out⟩⟩
      case done =>
        rintro D xs W hD rfl ⟨_, _, hKl⟩ hdef
        rw [upto_length] at hKl
        omega
      case stop =>
        rintro D cd pre W hD ⟨k', hk', hpre⟩ hix hdef
        rcases hix with ⟨rfl, p', x', hp', hnd⟩ | ⟨rfl, hS, hR, hBt, hKe⟩
        · exact (not_due hk' (hp'.symm.trans hpre) hnd).elim
        · have hO := HO.out
          have hl7 := HlB7.out
          have hb7 := HBX7.out
          obtain ⟨w8, rfl⟩ : ∃ w8, w8 = W := ⟨_, rfl⟩
          rw [hKe] at hS
          have vL := (boxed_but hBt hb7.2.1 (by simp; omega)).cell
          have vN := (boxed_but hBt hb7.2.2.2.1 (by simp; omega)).cell
          have bQ8 := boxed_but hBt hb7.2.2.2.2 (by simp; omega)
          have bV8 := boxed_but hBt hb7.1 (by simp; omega)
          have vS := hS.cell
          have bF8 := boxed_but hBt bF7 (by simp; omega)
          have HQ8 : Hid (QP w8 3 1 92 (some ⟨QA, 0, none⟩) bs (zs.length + 1) (els zs)) := HQ7.out.but0 hBt (fun x hx hc => by
            have h1 := Hbs7.out x hx
            have h2 := HI.out x hx
            simp at hc
            omega)
          have HB78 : Hid (But [w5.heap.size + 1, w.heap.size + 1 + 1] w7 w8) := hBt
          have HD8 : Hid (w7.heap.size ≤ D ∧ w8.heap[D]? = some (.deferred (some []))) := ⟨hD, hdef⟩
          have hK1w : IntKind.i64.wrap (K + 1) = K + 1 := by rw [IntKind.wrap_i64]; omega
          have hKK : ((K + 1) != (K + 1)) = false := by simp
          clear hO hl7 hb7 hBt hdef hD hpre hk'
          gi_wp2_with fail
          gi_cut [91] from 86 (fun s91 wx => s91 = .bool false ∧ Hid (wx = w8.drew))
          case first =>
            first | gi_region_with ((refine ⟨trivial, ?_⟩); gi_at_call 9; refine (callsIn_wide.2 (HKd.out _)).mono ?_; rintro e wk ⟨rfl, hwk⟩; subst hwk) | fail "no"
            all_goals (gi_wp2_with fail; gi_meet; exact ⟨rfl, rfl⟩)
          case rest =>
            obtain ⟨rfl, HWc⟩ := hcut
            have HBc : Hid (But [] w8 wc) := (by rw [HWc.out]; exact (But.refl [] w8).drew : But [] w8 wc)
            have HQc : Hid (QP wc 3 1 92 (some ⟨QA, 0, none⟩) bs (zs.length + 1) (els zs)) := HQ8.out.but0 HBc.out (fun _ _ h => by cases h)
            have cQc := (boxed_but HBc.out bQ8 (fun h => by cases h)).cell
            have HLn : Hid ((els zs).length < zs.length + 1) := (by rw [els_len]; omega : _ < _)
            clear HQ8 HKd vN vL vS
            gi_wp2_with fail
            refine ⟨trivial, ?_⟩
            refine (callsIn_wide.2 (qPush_I HQc.out more HLn.out)).mono ?_
            rintro e w9 ⟨rfl, bs9, hq9, hin9, hb9⟩
            rw [els_cons g1] at hq9
            have HQ9 : Hid (QP w9 3 1 92 (some ⟨QA, 0, none⟩) bs9 (zs.length + 1) ([Value.int .i64 (zs[0]?.getD 0)] :: (els (zs.drop 1) ++ [[Value.int .i64 more]]))) := hq9
            have hO := HO.out
            have hl7 := HlB7.out
            have hb8c := HBc.out.size
            have hb78 := HB78.out.size
            have HIn9 : Hid (∀ b ∈ bs9, b ∈ bs ∨ w8.heap.size ≤ b) := fun b hb => (hin9 b hb).imp id (fun h => Nat.le_trans hb8c h)
            have HNot : Hid (∀ b ∈ bs, (b = QA ∨ w4.heap.size ≤ b) ∧ b < wr.heap.size) := fun b hb => ⟨HI.out b hb, Hbs7.out b hb⟩
            have HB89 : Hid (But bs w8 w9) := but_on (HBc.out.nil) hb9 (fun b hb => .inl hb)
            have nQ : w3.heap.size ∉ bs := fun h => by have := HNot.out _ h; omega
            have cQ9 := (boxed_but HB89.out bQ8 nQ).cell
            obtain ⟨g, o, ha, hg, hcv⟩ := HVal.out 0 (by omega)
            subst ha
            have v8 : w8.cell? ⟨g, o + 0, none⟩ = some (.int .i64 (zs[0]?.getD 0)) := HB78.out.cell hcv (by simp; omega)
            have HV8 : Hid (w8.cell? ⟨g, o + 0, none⟩ = some (.int .i64 (zs[0]?.getD 0)) ∧ g < w.heap.size) := ⟨v8, hg⟩
            clear hq9 hin9 hb9 hO hl7 hb8c hb78 v8 hg hcv cQc HQc HBc HWc nQ
            gi_wp2_with fail
            refine ⟨trivial, ?_⟩
            refine (callsIn_wide.2 (qPop_I _ HQ9.out)).mono ?_
            rintro e w10 ⟨rfl, hq10, hb10⟩
            have HQ10 : Hid (QP w10 3 1 92 (some ⟨QA, 0, none⟩) bs9 (zs.length + 1) (els (zs.drop 1) ++ [[Value.int .i64 more]])) := hq10
            have HB810 : Hid (But bs w8 w10) := but_on HB89.out hb10 HIn9.out
            have hO := HO.out
            have hl7 := HlB7.out
            have hb78 := HB78.out.size
            have hNot := HNot.out
            have bV10 := boxed_but HB810.out bV8 (fun h => by have := hNot _ h; omega)
            have bF10 := boxed_but HB810.out bF8 (fun h => by have := hNot _ h; omega)
            have cv10 : w10.cell? ⟨g, o, none⟩ = some (.int .i64 (zs[0]?.getD 0)) := HB810.out.cell HV8.out.1 (fun h => by have h1 := hNot _ h; have h2 := HV8.out.2; simp only at h1; omega)
            have vV := bV10.cell
            have vF := bF10.cell
            have lF := bF10.lt
            have hgw : g < w10.heap.size := World.block_lt_of_cell? _ _ cv10
            have hvv : (zs[0]?.getD 0 != zs[0]?.getD 0) = false := by simp
            have hlz : (0 : Int) < (zs.length : Int) := by omega
            clear hq10 hb10 hO hl7 hb78 hNot HQ9 HB89 cQ9
            generalize zs[0]?.getD 0 = z0 at *
            gi_wp2_with fail
            obtain ⟨w11, hw11⟩ : ∃ w11, w11 = w10.alloc (Obj.cells #[Value.int IntKind.i64 0] 3) := ⟨_, rfl⟩
            rw [← hw11]
            have hz11 : w11.heap.size = w10.heap.size + 1 := by rw [hw11]; simp
            have bO11 : Boxed w11 w10.heap.size 3 (.int .i64 0) := by rw [hw11]; exact Boxed.new w10 _ _
            have hB10 : But [] w10 w11 := by rw [hw11]; exact (But.refl [] w10).alloc _
            clear hw11
            have hB8 : But bs w8 w11 := but_on HB810.out hB10 (fun _ h => by cases h)
            have hQ11 : QP w11 3 1 92 (some ⟨QA, 0, none⟩) bs9 (zs.length + 1) (els (zs.drop 1) ++ [[Value.int .i64 more]]) := HQ10.out.but0 hB10 (fun _ _ h => by cases h)
            have hO := HO.out
            have hl7 := HlB7.out
            have hb78 := HB78.out.size
            have hNot := HNot.out
            have hD := HD8.out
            have hD8 : D < w8.heap.size := (Array.getElem?_eq_some_iff.1 hD.2).1
            have hz810 := HB810.out.size
            have hlt9 := HQ10.out.ltq
            have HN9 : Hid (∀ b ∈ bs9, (b = QA ∨ (w4.heap.size ≤ b ∧ b < wr.heap.size) ∨ w8.heap.size ≤ b) ∧ b < w10.heap.size) := fun b hb => ⟨by
              rcases HIn9.out b hb with h | h
              · have := hNot b h
                omega
              · exact .inr (.inr h), hlt9 b hb⟩
            have HG : Hid ((w.heap.size + 3 ≤ BN ∧ BN < QA ∧ QA < w3.heap.size ∧ w4.heap.size = w3.heap.size + 1) ∧ (w4.heap.size ≤ wr.heap.size ∧ wr.heap.size ≤ Bs ∧ wr.heap.size ≤ bl ∧ wr.heap.size ≤ w5.heap.size) ∧ (Bs < w5.heap.size ∧ bl < w5.heap.size ∧ w7.heap.size = w5.heap.size + 2) ∧ (w7.heap.size ≤ w8.heap.size ∧ w8.heap.size ≤ w10.heap.size ∧ w11.heap.size = w10.heap.size + 1) ∧ w7.heap.size ≤ D ∧ D < w8.heap.size) := (⟨by omega, by omega, by omega, by omega, by omega, by omega⟩ : _ ∧ _ ∧ _ ∧ _ ∧ _ ∧ _)
            have hb7 := HBX7.out
            have HBX : Hid (Boxed w11 w.heap.size 59 (.slice (some ⟨g, o, none⟩) zs.length c) ∧ Boxed w11 BN 3 (.int .i64 (zs.length : Int)) ∧ Boxed w11 w3.heap.size 63 (.pointer (some ⟨QA, 0, none⟩)) ∧ Boxed w11 w5.heap.size 68 (Value.func (Fn.func 49) #[] #[Value.pointer (some ⟨Bs, 0, none⟩)]) ∧ w11.heap[D]? = some (.deferred (some []))) :=
              (⟨boxed_but hB8 bV8 (fun h => by have := hNot _ h; omega), boxed_but hB8 (boxed_but HB78.out hb7.2.2.2.1 (by simp; omega)) (fun h => by have := hNot _ h; omega), boxed_but hB8 bQ8 (fun h => by have := hNot _ h; omega), boxed_but hB8 bF8 (fun h => by have := hNot _ h; omega), (hB8.block D hD8 (fun h => by have := hNot _ h; omega)).trans hD.2⟩ : _)
            have bR11 : Boxed w11 (w.heap.size + 1 + 1) 4 (.bool false) := boxed_but hB8 hR (fun h => by have := hNot _ h; omega)
            have HVal11 : Hid (∀ j, j < zs.length → w11.cell? ⟨g, o + j, none⟩ = some (.int .i64 (zs[j]?.getD 0))) := fun j hj => by
              obtain ⟨g', o', he, hg', hc'⟩ := HVal.out j hj
              injection he with he
              injection he with he1 he2
              subst he1 he2
              exact hB8.cell (HB78.out.cell hc' (by simp; omega)) (fun h => by have h1 := hNot _ h; simp only at h1; omega)
            have HcB11 : Hid (w11.cell? ⟨Bs, 0, none⟩ = some sv) := hB8.cell (HB78.out.cell HcB7.out (by simp; omega)) (fun h => by have h1 := hNot _ h; simp only at h1; omega)
            have HL11 : Hid (Lies_I bl w11 sv zs) := (HL7.out.keep (keep_but HB78.out (by omega) (by simp; omega))).keep (keep_but hB8 (by omega) (fun h => by have h1 := hNot _ h; omega))
            have HB11 : Hid (Below w.heap.size w w11) := below_but (below_but (below_but HB4.out HBt7.out (by simp; omega) (by omega)) HB78.out (by simp; omega) (by omega)) hB8 (fun b hb => by have := hNot _ hb; omega) (by omega)
            have HgW : Hid (g < w.heap.size) := HV8.out.2
            clear hB10 hB8 hO hl7 hb78 hNot hD hD8 hz810 hlt9 hb7 HQ10 HB810 HIn9 HNot HV8 HB78 HD8 hS hR bV8 bF8 bQ8 bF10 bV10 cv10 vV vF lF hgw hvv HQ7 HBX7 HVal HcB7 HL7 HBt7 HlB7 Hbs7 HI hcap
            have hG := HG.out
            refine wpIn_rangeFunc_ownH rfl (by omega) (gf := 49) (lb := #[.pointer (some ⟨Bs, 0, none⟩)]) rfl trivial (enters_of Try.func49 (by kernel_rfl) rfl)
              (all_stops_I Fence.wide 7 trivial rfl (by omega) Bs bl sv zs (by omega) w11 (by omega) (by omega) HcB11.out HL11.out) keepK_t (keepK_b (by omega)) (Below.refl _ _) (fun _ => rfl)
              (fun (pre : List (Nat × Int)) W => (Boxed W w10.heap.size 3 (.int .i64 (pre.length : Int)) ∧ Boxed W (w.heap.size + 1 + 1) 4 (.bool false)) ∧ But (w10.heap.size :: (w.heap.size + 1 + 1) :: bs9) w11 W ∧ QS QA (zs.length + 1) bs9 pre W)
              (IxR zs)
              (OwnFrom.and (OwnFrom.and (Own.from (boxed_own _ _ (fun pre : List (Nat × Int) => Value.int .i64 (pre.length : Int))) _) (Own.from (boxed_own _ _ (fun _ : List (Nat × Int) => Value.bool false)) _)) (OwnFrom.and (ownFrom_but (Nat.le_refl _)) qs_own))
              (fun cd => ixr_own zs cd)
              ⟨⟨bO11, bR11⟩, But.refl _ _, ⟨bs9, _, hQ11, fun _ h => h, fun h => (h rfl).elim⟩⟩
              (fun (x : Nat × Int) a' (_ : World) => a' = { tmps := #[Value.slice (some { block := g, off := o }) zs.length c, Value.int IntKind.i64 leave, Value.int IntKind.i64 more, Value.pointer (some { block := w.heap.size, off := 0 }), Value.pointer (some { block := w.heap.size + 1, off := 0 }), undef, Value.pointer (some { block := w.heap.size + 1 + 1, off := 0 }), Value.pointer (some { block := BN, off := 0 }), Value.pointer (some { block := w3.heap.size, off := 0 }), Value.int IntKind.i64 0, undef, u11, Value.pointer (some { block := w5.heap.size, off := 0 }), Value.pointer (some { block := w5.heap.size + 1, off := 0 }), undef, undef, Value.int IntKind.i64 z0, Value.pointer (some { block := w10.heap.size, off := 0 }), Value.int IntKind.i64 (x.1 : Int), Value.int IntKind.i64 x.2, undef, undef, undef, Value.bool true, Value.bool false, Value.slice (some { block := g, off := o }) zs.length c, Value.int IntKind.i64 ↑zs.length, Value.int IntKind.i64 ↑zs.length, Value.bool false, Value.bool false, Value.int IntKind.i64 ↑zs.length, Value.bool false, Value.bool false, Value.tuple #[Value.pointer (some { block := QA, off := 0 }), Value.int IntKind.i64 0], Value.int IntKind.i64 ↑zs.length, Value.int IntKind.i64 (↑zs.length + 1), Value.tuple #[Value.pointer (some { block := QA, off := 0 }), Value.int IntKind.i64 0], Value.pointer (some { block := QA, off := 0 }), Value.int IntKind.i64 0, Value.int IntKind.i64 0, Value.bool false, Value.bool false, Value.pointer (some { block := QA, off := 0 }), Value.bool false, Value.bool false, Value.slice (some { block := g, off := o }) zs.length c, Value.int IntKind.i64 ↑zs.length, Value.int IntKind.i64 ↑zs.length, Value.bool false, u49, u50, u51, u52, u53, u54, u55, Value.pointer (some { block := QA, off := 0 }), Value.func (Fn.func 49) #[] #[Value.pointer (some { block := Bs, off := 0 })], Value.func (Fn.func 49) #[] #[Value.pointer (some { block := Bs, off := 0 })], Value.bool false, Value.func (Fn.func 49) #[] #[Value.pointer (some { block := Bs, off := 0 })], undef, undef, undef, undef, undef, undef, undef, undef, undef, undef, undef, undef, undef, undef, undef, undef, undef, undef, undef, undef, undef, undef, undef, undef, undef, u86, u87, u88, u89, u90, Value.bool false, Value.pointer (some { block := QA, off := 0 }), Value.int IntKind.i64 more, Value.int IntKind.i64 0, Value.bool false, Value.tuple #[Value.int IntKind.i64 z0, Value.int IntKind.i64 0], Value.pointer (some { block := QA, off := 0 }), Value.tuple #[Value.int IntKind.i64 z0, Value.int IntKind.i64 0], Value.int IntKind.i64 z0, Value.int IntKind.i64 0, Value.int IntKind.i64 0, Value.bool false, Value.bool false, Value.int IntKind.i64 z0, Value.slice (some { block := g, off := o }) zs.length c, Value.pointer (some { block := g, off := o }), Value.int IntKind.i64 z0, Value.bool false, Value.bool false, Value.func (Fn.func 49) #[] #[Value.pointer (some { block := Bs, off := 0 })], Value.int IntKind.i64 (x.1 : Int), Value.int IntKind.i64 x.2, u113, u114, u115, u116, u117, u118, u119, u120, u121, u122, u123, u124, u125, u126, u127, u128, u129, u130, u131, u132, u133, u134, u135, u136, u137, u138, u139, u140, u141, u142, u143, u144, u145, u146, u147, u148, u149, u150, u151, u152, u153, u154, u155, u156, u157, u158, u159, u160, u161, u162, u163], defers := [] })
              (fun _ _ _ _ _ _ hs _ _ => hs)
              ?assign2 ?body2 ?done2 ?stop2
            case assign2 =>
              rintro l pre x W K' hi hK'
              gi_wp2
              exact hK' _ _ (KeepsFrom.refl _ _) (Keep.refl _ _) hi rfl
            case body2 =>
              rintro l pre ⟨xi, xv⟩ a' W hl ⟨r, hr⟩ ⟨⟨hS, hR⟩, hBt, hQS⟩ rfl hlt
              have HN : Hid (∀ b, b < w11.heap.size → b ≠ w10.heap.size → b ≠ w.heap.size + 1 + 1 → b ∉ bs9 → b ∉ w10.heap.size :: (w.heap.size + 1 + 1) :: bs9) := fun b _ h1 h2 h3 h => by
                simp at h
                rcases h with h | h | h
                · exact h1 h
                · exact h2 h
                · exact h3 h
              have hn9 := HN9.out
              have hb11 := HBX.out
              have vV := (boxed_but hBt hb11.1 (HN.out _ (by omega) (by omega) (by omega) (fun h => by have := hn9 _ h; omega))).cell
              have vN := (boxed_but hBt hb11.2.1 (HN.out _ (by omega) (by omega) (by omega) (fun h => by have := hn9 _ h; omega))).cell
              have bQ := boxed_but hBt hb11.2.2.1 (HN.out _ (by omega) (by omega) (by omega) (fun h => by have := hn9 _ h; omega))
              have bF := boxed_but hBt hb11.2.2.2.1 (HN.out _ (by omega) (by omega) (by omega) (fun h => by have := hn9 _ h; omega))
              have vS := hS.cell
              have fS := hS.frozen
              have vR := hR.cell
              have fR := hR.frozen
              have HBW : Hid (But (w10.heap.size :: (w.heap.size + 1 + 1) :: bs9) w11 W) := hBt
              have vC : W.cell? ⟨g, o + pre.length, none⟩ = some (.int .i64 (zs[pre.length]?.getD 0)) := hBt.cell (HVal11.out _ hlt) (HN.out _ (by have := HgW.out; simp only; omega) (by have := HgW.out; simp only; omega) (by have := HgW.out; simp only; omega) (fun h => by have := HgW.out; have h1 := hn9 _ h; simp only at h1; omega))
              have hszW := hBt.size
              have HSz : Hid (w11.heap.size ≤ W.heap.size) := hBt.size
              have HSb : Hid (Boxed W w10.heap.size 3 (.int .i64 (pre.length : Int))) := hS
              have HRb : Hid (Boxed W (w.heap.size + 1 + 1) 4 (.bool false)) := hR
              have HQS : Hid (QS QA (zs.length + 1) bs9 pre W) := hQS
              have HLp : Hid (w11.heap.size ≤ l ∧ W.heap[l]? = some (.loop r)) := ⟨hl, hr⟩
              have lF := bF.lt
              have HbQ : Hid (Boxed W w3.heap.size 63 (.pointer (some ⟨QA, 0, none⟩))) := bQ
              have HbF : Hid (Boxed W w5.heap.size 68 (Value.func (Fn.func 49) #[] #[Value.pointer (some ⟨Bs, 0, none⟩)])) := bF
              clear hn9 hb11 hBt hS hR hQS hl hr hG hszW bQ bF
              by_cases h1 : xi = pre.length
              · subst h1
                have hii : ((pre.length : Int) != (pre.length : Int)) = false := by simp
                have hin : ¬ (zs.length : Int) ≤ (pre.length : Int) := by omega
                have hlti : (pre.length : Int) < (zs.length : Int) := by omega
                by_cases h2 : xv = zs[pre.length]?.getD 0
                · rw [← h2] at vC
                  have hvv : (xv != xv) = false := by simp
                  have hG := HG.out
                  have vF1 : (W.setCell ⟨w10.heap.size, 0, none⟩ (.int .i64 ((pre.length : Int) + 1))).cell? ⟨w5.heap.size, 0, none⟩ = some (Value.func (Fn.func 49) #[] #[Value.pointer (some ⟨Bs, 0, none⟩)]) := ((But.refl [w10.heap.size] W).setCell (p := ⟨w10.heap.size, 0, none⟩) (by simp) _).cell HbF.out.cell (by simp; omega)
                  obtain ⟨Wi, hWi⟩ : ∃ Wi, Wi = (W.setCell ⟨w10.heap.size, 0, none⟩ (.int .i64 ((pre.length : Int) + 1))).alloc (Obj.cells #[Value.int IntKind.i64 0] 3) := ⟨_, rfl⟩
                  have HWi : Hid (Wi = (W.setCell ⟨w10.heap.size, 0, none⟩ (.int .i64 ((pre.length : Int) + 1))).alloc (Obj.cells #[Value.int IntKind.i64 0] 3)) := hWi
                  clear hWi hG h2
                  gi_wp2_with fail
                  rw [← HWi.out]
                  have hG := HG.out
                  have hsz := HSz.out
                  have hn9 := HN9.out
                  have hb11 := HBX.out
                  have hzi : Wi.heap.size = W.heap.size + 1 := by rw [HWi.out]; simp
                  have bI : Boxed Wi W.heap.size 3 (.int .i64 0) := by
                    rw [HWi.out]
                    have := Boxed.new (W.setCell ⟨w10.heap.size, 0, none⟩ (.int .i64 ((pre.length : Int) + 1))) 3 (.int .i64 0)
                    rwa [World.size_setCell] at this
                  have hBWi : But [w10.heap.size] W Wi := by rw [HWi.out]; exact ((But.refl _ W).setCell (p := ⟨w10.heap.size, 0, none⟩) (by simp) _).alloc _
                  have HBi2 : Hid (But [w10.heap.size] W Wi) := hBWi
                  have bRi : Boxed Wi (w.heap.size + 1 + 1) 4 (.bool false) := boxed_but hBWi HRb.out (by simp; omega)
                  have HbOi : Hid (Boxed Wi w10.heap.size 3 (.int .i64 ((pre.length : Int) + 1))) := (by rw [HWi.out]; exact (HSb.out.set _).alloc _ : Boxed _ _ _ _)
                  have hri : Wi.heap[l]? = some (.loop r) := (hBWi.block l (Array.getElem?_eq_some_iff.1 HLp.out.2).1 (by have := HLp.out.1; simp; omega)).trans HLp.out.2
                  have hBi : But (w10.heap.size :: (w.heap.size + 1 + 1) :: bs9) w11 Wi := but_on HBW.out hBWi (fun b hb => .inl (by simp at hb; simp [hb]))
                  have HBXi : Hid (Boxed Wi w.heap.size 59 (.slice (some ⟨g, o, none⟩) zs.length c) ∧ Boxed Wi BN 3 (.int .i64 (zs.length : Int))) :=
                    (⟨boxed_but hBi hb11.1 (HN.out _ (by omega) (by omega) (by omega) (fun h => by have := hn9 _ h; omega)), boxed_but hBi hb11.2.1 (HN.out _ (by omega) (by omega) (by omega) (fun h => by have := hn9 _ h; omega))⟩ : _ ∧ _)
                  have HVi : Hid (∀ j, j < zs.length → Wi.cell? ⟨g, o + j, none⟩ = some (.int .i64 (zs[j]?.getD 0))) := fun j hj => hBi.cell (HVal11.out _ hj) (HN.out _ (by have := HgW.out; simp only; omega) (by have := HgW.out; simp only; omega) (by have := HgW.out; simp only; omega) (fun h => by have := HgW.out; have h1 := hn9 _ h; simp only at h1; omega))
                  have hcBi : Wi.cell? ⟨Bs, 0, none⟩ = some sv := hBi.cell HcB11.out (HN.out _ (by simp only; omega) (by simp only; omega) (by simp only; omega) (fun h => by have h1 := hn9 _ h; simp only at h1; omega))
                  have hLi : Lies_I bl Wi sv zs := HL11.out.keep (keep_but hBi (by omega) (HN.out _ (by omega) (by omega) (by omega) (fun h => by have h1 := hn9 _ h; omega)))
                  clear hBi hBWi hb11 hn9 HWi vV vN vS fS vR fR vC vF1 lF
                  refine wpIn_rangeFunc_ownN (l₀ := l) (r₀ := r) rfl hri (by omega) (gf := 49) (lb := #[.pointer (some ⟨Bs, 0, none⟩)]) rfl trivial (enters_of Try.func49 (by kernel_rfl) rfl)
                    ((all_stops_I Fence.wide 5 trivial rfl (by omega) Bs bl sv zs (by omega) Wi (by omega) (by omega) hcBi hLi).inRound l) keepK_t (keepK_b (by omega)) (Below.refl _ _) (fun _ => rfl)
                    (fun (pre' : List (Nat × Int)) W' => (Boxed W' W.heap.size 3 (.int .i64 (pre'.length : Int)) ∧ Boxed W' (w.heap.size + 1 + 1) 4 (.bool false)) ∧ (But [W.heap.size, w.heap.size + 1 + 1] Wi W' ∧ (pre'.length : Int) ≤ 3))
                    (Ix1 zs W.heap.size (w.heap.size + 1 + 1) 3 Wi 6)
                    (OwnFrom.and (OwnFrom.and (Own.from (boxed_own _ _ (fun pre : List (Nat × Int) => Value.int .i64 (pre.length : Int))) _) (Own.from (boxed_own _ _ (fun _ : List (Nat × Int) => Value.bool false)) _)) (OwnFrom.and (ownFrom_but (Nat.le_refl _)) (ownFrom_pure _ (fun pre : List (Nat × Int) => (pre.length : Int) ≤ 3))))
                    (ix1_own zs W.heap.size (w.heap.size + 1 + 1) 3 Wi 6)
                    ⟨⟨bI, bRi⟩, But.refl _ _, by simp⟩
                    (fun (y : Nat × Int) a'' (_ : World) => a'' = { tmps := #[Value.slice (some { block := g, off := o }) zs.length c, Value.int IntKind.i64 leave, Value.int IntKind.i64 more, Value.pointer (some { block := w.heap.size, off := 0 }), Value.pointer (some { block := w.heap.size + 1, off := 0 }), undef, Value.pointer (some { block := w.heap.size + 1 + 1, off := 0 }), Value.pointer (some { block := BN, off := 0 }), Value.pointer (some { block := w3.heap.size, off := 0 }), Value.int IntKind.i64 0, undef, u11, Value.pointer (some { block := w5.heap.size, off := 0 }), Value.pointer (some { block := w5.heap.size + 1, off := 0 }), undef, undef, Value.int IntKind.i64 z0, Value.pointer (some { block := w10.heap.size, off := 0 }), Value.int IntKind.i64 ↑pre.length, Value.int IntKind.i64 xv, Value.pointer (some { block := W.heap.size, off := 0 }), Value.int IntKind.i64 (y.1 : Int), Value.int IntKind.i64 y.2, Value.bool true, Value.bool false, Value.slice (some { block := g, off := o }) zs.length c, Value.int IntKind.i64 ↑zs.length, Value.int IntKind.i64 ↑zs.length, Value.bool false, Value.bool false, Value.int IntKind.i64 ↑zs.length, Value.bool false, Value.bool false, Value.tuple #[Value.pointer (some { block := QA, off := 0 }), Value.int IntKind.i64 0], Value.int IntKind.i64 ↑zs.length, Value.int IntKind.i64 (↑zs.length + 1), Value.tuple #[Value.pointer (some { block := QA, off := 0 }), Value.int IntKind.i64 0], Value.pointer (some { block := QA, off := 0 }), Value.int IntKind.i64 0, Value.int IntKind.i64 0, Value.bool false, Value.bool false, Value.pointer (some { block := QA, off := 0 }), Value.bool false, Value.bool false, Value.slice (some { block := g, off := o }) zs.length c, Value.int IntKind.i64 ↑zs.length, Value.int IntKind.i64 ↑zs.length, Value.bool false, u49, u50, u51, u52, u53, u54, u55, Value.pointer (some { block := QA, off := 0 }), Value.func (Fn.func 49) #[] #[Value.pointer (some { block := Bs, off := 0 })], Value.func (Fn.func 49) #[] #[Value.pointer (some { block := Bs, off := 0 })], Value.bool false, Value.func (Fn.func 49) #[] #[Value.pointer (some { block := Bs, off := 0 })], undef, undef, undef, undef, undef, undef, undef, undef, undef, undef, undef, undef, undef, undef, undef, undef, undef, undef, undef, undef, undef, undef, undef, undef, undef, u86, u87, u88, u89, u90, Value.bool false, Value.pointer (some { block := QA, off := 0 }), Value.int IntKind.i64 more, Value.int IntKind.i64 0, Value.bool false, Value.tuple #[Value.int IntKind.i64 z0, Value.int IntKind.i64 0], Value.pointer (some { block := QA, off := 0 }), Value.tuple #[Value.int IntKind.i64 z0, Value.int IntKind.i64 0], Value.int IntKind.i64 z0, Value.int IntKind.i64 0, Value.int IntKind.i64 0, Value.bool false, Value.bool false, Value.int IntKind.i64 z0, Value.slice (some { block := g, off := o }) zs.length c, Value.pointer (some { block := g, off := o }), Value.int IntKind.i64 z0, Value.bool false, Value.bool false, Value.func (Fn.func 49) #[] #[Value.pointer (some { block := Bs, off := 0 })], Value.int IntKind.i64 ↑pre.length, Value.int IntKind.i64 xv, Value.int IntKind.i64 ↑pre.length, Value.int IntKind.i64 ↑pre.length, Value.bool false, Value.bool false, Value.int IntKind.i64 ↑pre.length, Value.int IntKind.i64 ↑zs.length, Value.bool false, Value.bool false, Value.bool false, Value.int IntKind.i64 xv, Value.slice (some { block := g, off := o }) zs.length c, Value.int IntKind.i64 ↑pre.length, Value.pointer (some { block := g, off := o + pre.length }), Value.int IntKind.i64 xv, Value.bool false, Value.bool false, Value.int IntKind.i64 ↑pre.length, Value.int IntKind.i64 (↑pre.length + 1), Value.func (Fn.func 49) #[] #[Value.pointer (some { block := Bs, off := 0 })], Value.int IntKind.i64 (y.1 : Int), Value.int IntKind.i64 y.2, u134, u135, u136, u137, u138, u139, u140, u141, u142, u143, u144, u145, u146, u147, u148, u149, u150, u151, u152, u153, u154, u155, u156, u157, u158, u159, u160, u161, u162, u163], defers := [] })
                    (fun _ _ _ _ _ _ hs _ _ => hs)
                    ?assign3 ?body3 ?done3 ?stop3
                  case assign3 =>
                    rintro l2 pre' y W' K' hi hK'
                    gi_wp2
                    exact hK' _ _ (KeepsFrom.refl _ _) (Keep.refl _ _) hi rfl
                  case body3 =>
                    rintro l2 pre' ⟨yi, yv⟩ a'' W' hl2 _ ⟨⟨hS, hR⟩, hBt, hKl⟩ rfl hlt2
                    have hG := HG.out
                    have hsz := HSz.out
                    have vV := (boxed_but hBt HBXi.out.1 (by simp; omega)).cell
                    have vN := (boxed_but hBt HBXi.out.2 (by simp; omega)).cell
                    have vS := hS.cell
                    have fS := hS.frozen
                    have vR := hR.cell
                    have fR := hR.frozen
                    have vC : W'.cell? ⟨g, o + pre'.length, none⟩ = some (.int .i64 (zs[pre'.length]?.getD 0)) := hBt.cell (HVi.out _ hlt2) (by have := HgW.out; simp; omega)
                    have HBW2 : Hid (But [W.heap.size, w.heap.size + 1 + 1] Wi W') := hBt
                    have HSR : Hid (W.heap.size ≠ w.heap.size + 1 + 1) := (by omega : _ ≠ _)
                    have HbS : Hid (bl ≠ W.heap.size) := (by omega : _ ≠ _)
                    have HSb2 : Hid (Boxed W' W.heap.size 3 (.int .i64 (pre'.length : Int))) := hS
                    have HRb2 : Hid (Boxed W' (w.heap.size + 1 + 1) 4 (.bool false)) := hR
                    clear hG hsz hBt hS hR
                    by_cases h1 : yi = pre'.length
                    · subst h1
                      have hii : ((pre'.length : Int) != (pre'.length : Int)) = false := by simp
                      have hin : ¬ (zs.length : Int) ≤ (pre'.length : Int) := by omega
                      have hlti : (pre'.length : Int) < (zs.length : Int) := by omega
                      by_cases h2 : yv = zs[pre'.length]?.getD 0
                      · rw [← h2] at vC
                        have hvv : (yv != yv) = false := by simp
                        have hW1 : Boxed (W'.setCell ⟨W.heap.size, 0, none⟩ (.int .i64 ((pre'.length : Int) + 1))) W.heap.size 3 (.int .i64 ((pre'.length : Int) + 1)) := HSb2.out.set _
                        have cW1 := hW1.cell
                        have HW1 : Hid (Boxed (W'.setCell ⟨W.heap.size, 0, none⟩ (.int .i64 ((pre'.length : Int) + 1))) W.heap.size 3 (.int .i64 ((pre' ++ [(pre'.length, yv)]).length : Int))) := (by rw [List.length_append]; exact hW1 : Boxed _ _ _ _)
                        have HR1 : Hid (Boxed (W'.setCell ⟨W.heap.size, 0, none⟩ (.int .i64 ((pre'.length : Int) + 1))) (w.heap.size + 1 + 1) 4 (.bool false)) := (HRb2.out.other (fun e => HSR.out e.symm) _ : Boxed _ _ _ _)
                        have HB1 : Hid (But [W.heap.size, w.heap.size + 1 + 1] Wi (W'.setCell ⟨W.heap.size, 0, none⟩ (.int .i64 ((pre'.length : Int) + 1)))) := HBW2.out.setCell (p := ⟨W.heap.size, 0, none⟩) (by simp) _
                        have HKp : Hid (Keep bl W' (W'.setCell ⟨W.heap.size, 0, none⟩ (.int .i64 ((pre'.length : Int) + 1)))) := (Below.heap_setCell _ _ _ _ (fun e => HbS.out e) : _ = _)
                        clear hW1 h2
                        by_cases hk : (pre'.length : Int) = 3
                        · have HKe : Hid (((pre' ++ [(pre'.length, yv)]).length : Int) = 3 + 1) := (by rw [List.length_append]; simp; omega : _ = _)
                          have hk3 : (3 : Int) < (pre'.length : Int) + 1 := by omega
                          have hd3 : decide ((3 : Int) < (pre'.length : Int) + 1) = true := decide_eq_true hk3
                          clear hk
                          gi_wp2
                          exact ⟨(KeepsOthers.setCell _ _ _).from _, .inr ⟨rfl, HW1.out, HR1.out, HB1.out, HKe.out⟩⟩
                        · have HKe : Hid (((pre' ++ [(pre'.length, yv)]).length : Int) ≤ 3) := (by rw [List.length_append]; simp; omega : _ ≤ _)
                          have hk3 : ¬ (3 : Int) < (pre'.length : Int) + 1 := by omega
                          have hd3 : decide ((3 : Int) < (pre'.length : Int) + 1) = false := decide_eq_false hk3
                          clear hk
                          gi_wp2
                          exact ⟨(KeepsOthers.setCell _ _ _).from _, HKp.out, ⟨HW1.out, HR1.out⟩, HB1.out, HKe.out⟩
                      · have hnd : Hid (¬ due zs pre'.length (pre'.length, yv)) := fun h => h2 h.2.2
                        have hvv : (yv != zs[pre'.length]?.getD 0) = true := by simpa using h2
                        generalize zs[pre'.length]?.getD 0 = y at *
                        gi_wp2
                        exact ⟨(KeepsOthers.setCell _ _ _).from _, .inl ⟨rfl, pre', (pre'.length, yv), rfl, hnd.out⟩⟩
                    · have hnd : Hid (¬ due zs pre'.length (yi, yv)) := fun h => h1 h.1
                      have hii : ((yi : Int) != (pre'.length : Int)) = true := by simp; omega
                      gi_wp2
                      exact ⟨(KeepsOthers.setCell _ _ _).from _, .inl ⟨rfl, pre', (yi, yv), rfl, hnd.out⟩⟩
                  case done3 =>
                    rintro ys' W' rfl ⟨⟨_, hR'⟩, hBt', _⟩
                    have hG := HG.out
                    have hsz := HSz.out
                    have hn9 := HN9.out
                    have hBt2 := HBi2.out
                    have hBW' : But [w10.heap.size, w.heap.size + 1 + 1] W W' := but_on (hBt2.mono (fun x hx => by simp at hx; simp [hx])) hBt' (fun b hb => by
                      simp at hb
                      rcases hb with rfl | rfl
                      · exact .inr (Nat.le_refl _)
                      · exact .inl (by simp))
                    obtain ⟨b, ys, hq, hsub, _⟩ := HQS.out
                    have hb9 : ∀ x ∈ b, (x = QA ∨ (w4.heap.size ≤ x ∧ x < wr.heap.size) ∨ w8.heap.size ≤ x) ∧ x < w10.heap.size := fun x hx => hn9 x (hsub x hx)
                    have hq' : QP W' 3 1 92 (some ⟨QA, 0, none⟩) b (zs.length + 1) ys := hq.but0 hBW' (fun x hx hc => by
                      have h1 := hb9 x hx
                      simp at hc
                      omega)
                    have cQ := (boxed_but hBW' HbQ.out (by simp; omega)).cell
                    have Hq' : Hid (QP W' 3 1 92 (some ⟨QA, 0, none⟩) b (zs.length + 1) ys) := hq'
                    have HF1 : Hid (KeepsOthers W W' ∧ Keep bl W W' ∧ But (w10.heap.size :: (w.heap.size + 1 + 1) :: bs9) w11 W' ∧ Boxed W' w10.heap.size 3 (.int .i64 ((pre.length : Int) + 1)) ∧ Boxed W' (w.heap.size + 1 + 1) 4 (.bool false)) :=
                      (⟨keeps_but hBW' (fun x hx => by
                        simp at hx
                        rcases hx with rfl | rfl
                        · exact ⟨_, HSb.out, rfl⟩
                        · exact ⟨_, HRb.out, rfl⟩), keep_but hBW' (by omega) (by simp; omega), but_on HBW.out hBW' (fun x hx => .inl (by simp at hx; simp; rcases hx with h | h <;> simp [h])), boxed_but hBt' HbOi.out (by simp; omega), hR'⟩ : _)
                    have HF2 : Hid ((∀ x ∈ b, x ∈ bs9) ∧ w10.heap.size ∉ b ∧ w.heap.size + 1 + 1 ∉ b ∧ bl ∉ b ∧ bl < W'.heap.size) := (⟨hsub, fun h => by have := hb9 _ h; omega, fun h => by have := hb9 _ h; omega, fun h => by have := hb9 _ h; omega, by have := hBW'.size; omega⟩ : _)
                    clear hG hsz hn9 hBt2 hBW' hq hsub hb9 hq' hR' hBt'
                    gi_wp2_with fail
                    refine ⟨trivial, ?_⟩
                    refine ((callsIn_wide.2 (qClear_I Hq'.out)).inRound l).mono ?_
                    rintro e W2 ⟨rfl, hq2, hb2⟩
                    have hE : KeepsFrom w11.heap.size W W2 ∧ Keep bl W W2 ∧ (Boxed W2 w10.heap.size 3 (.int .i64 ((pre ++ [(pre.length, xv)]).length : Int)) ∧ Boxed W2 (w.heap.size + 1 + 1) 4 (.bool false)) ∧ But (w10.heap.size :: (w.heap.size + 1 + 1) :: bs9) w11 W2 ∧ QS QA (zs.length + 1) bs9 (pre ++ [(pre.length, xv)]) W2 := by
                      have h1 := HF1.out
                      have h2 := HF2.out
                      refine ⟨(h1.1.trans (keeps_but hb2 Hq'.out.cells)).from _, keepK_t h1.2.1 (keep_but hb2 h2.2.2.2.2 h2.2.2.2.1), ⟨?_, boxed_but hb2 h1.2.2.2.2 h2.2.2.1⟩, but_on h1.2.2.1 hb2 (fun x hx => .inl (by simp [h2.1 x hx])), _, _, hq2, fun x hx => h2.1 x (List.mem_of_mem_take hx), fun _ => rfl⟩
                      rw [List.length_append]
                      exact boxed_but hb2 h1.2.2.2.1 h2.2.1
                    have HE : Hid (KeepsFrom w11.heap.size W W2 ∧ Keep bl W W2 ∧ (Boxed W2 w10.heap.size 3 (.int .i64 ((pre ++ [(pre.length, xv)]).length : Int)) ∧ Boxed W2 (w.heap.size + 1 + 1) 4 (.bool false)) ∧ But (w10.heap.size :: (w.heap.size + 1 + 1) :: bs9) w11 W2 ∧ QS QA (zs.length + 1) bs9 (pre ++ [(pre.length, xv)]) W2) := hE
                    clear hq2 hb2 HF1 HF2 Hq' hE
                    gi_wp2
                    exact HE.out
                  case stop3 =>
                    rintro cd pre' W' ⟨k', hk', hpre⟩ hix
                    rcases hix with ⟨rfl, p', x', hp', hnd⟩ | ⟨rfl, _, hR', hBt', _⟩
                    · exact (not_due hk' (hp'.symm.trans hpre) hnd).elim
                    · have hG := HG.out
                      have hsz := HSz.out
                      have hn9 := HN9.out
                      have hBt2 := HBi2.out
                      have hBW' : But [w10.heap.size, w.heap.size + 1 + 1] W W' := but_on (hBt2.mono (fun x hx => by simp at hx; simp [hx])) hBt' (fun b hb => by
                        simp at hb
                        rcases hb with rfl | rfl
                        · exact .inr (Nat.le_refl _)
                        · exact .inl (by simp))
                      obtain ⟨b, ys, hq, hsub, _⟩ := HQS.out
                      have hb9 : ∀ x ∈ b, (x = QA ∨ (w4.heap.size ≤ x ∧ x < wr.heap.size) ∨ w8.heap.size ≤ x) ∧ x < w10.heap.size := fun x hx => hn9 x (hsub x hx)
                      have hq' : QP W' 3 1 92 (some ⟨QA, 0, none⟩) b (zs.length + 1) ys := hq.but0 hBW' (fun x hx hc => by
                        have h1 := hb9 x hx
                        simp at hc
                        omega)
                      have cQ := (boxed_but hBW' HbQ.out (by simp; omega)).cell
                      have Hq' : Hid (QP W' 3 1 92 (some ⟨QA, 0, none⟩) b (zs.length + 1) ys) := hq'
                      have HF1 : Hid (KeepsOthers W W' ∧ Keep bl W W' ∧ But (w10.heap.size :: (w.heap.size + 1 + 1) :: bs9) w11 W' ∧ Boxed W' w10.heap.size 3 (.int .i64 ((pre.length : Int) + 1)) ∧ Boxed W' (w.heap.size + 1 + 1) 4 (.bool false)) :=
                        (⟨keeps_but hBW' (fun x hx => by
                          simp at hx
                          rcases hx with rfl | rfl
                          · exact ⟨_, HSb.out, rfl⟩
                          · exact ⟨_, HRb.out, rfl⟩), keep_but hBW' (by omega) (by simp; omega), but_on HBW.out hBW' (fun x hx => .inl (by simp at hx; simp; rcases hx with h | h <;> simp [h])), boxed_but hBt' HbOi.out (by simp; omega), hR'⟩ : _)
                      have HF2 : Hid ((∀ x ∈ b, x ∈ bs9) ∧ w10.heap.size ∉ b ∧ w.heap.size + 1 + 1 ∉ b ∧ bl ∉ b ∧ bl < W'.heap.size) := (⟨hsub, fun h => by have := hb9 _ h; omega, fun h => by have := hb9 _ h; omega, fun h => by have := hb9 _ h; omega, by have := hBW'.size; omega⟩ : _)
                      clear hG hsz hn9 hBt2 hBW' hq hsub hb9 hq' hR' hBt'
                      gi_wp2_with fail
                      refine ⟨trivial, ?_⟩
                      refine ((callsIn_wide.2 (qClear_I Hq'.out)).inRound l).mono ?_
                      rintro e W2 ⟨rfl, hq2, hb2⟩
                      have hE : KeepsFrom w11.heap.size W W2 ∧ Keep bl W W2 ∧ (Boxed W2 w10.heap.size 3 (.int .i64 ((pre ++ [(pre.length, xv)]).length : Int)) ∧ Boxed W2 (w.heap.size + 1 + 1) 4 (.bool false)) ∧ But (w10.heap.size :: (w.heap.size + 1 + 1) :: bs9) w11 W2 ∧ QS QA (zs.length + 1) bs9 (pre ++ [(pre.length, xv)]) W2 := by
                        have h1 := HF1.out
                        have h2 := HF2.out
                        refine ⟨(h1.1.trans (keeps_but hb2 Hq'.out.cells)).from _, keepK_t h1.2.1 (keep_but hb2 h2.2.2.2.2 h2.2.2.2.1), ⟨?_, boxed_but hb2 h1.2.2.2.2 h2.2.2.1⟩, but_on h1.2.2.1 hb2 (fun x hx => .inl (by simp [h2.1 x hx])), _, _, hq2, fun x hx => h2.1 x (List.mem_of_mem_take hx), fun _ => rfl⟩
                        rw [List.length_append]
                        exact boxed_but hb2 h1.2.2.2.1 h2.2.1
                      have HE : Hid (KeepsFrom w11.heap.size W W2 ∧ Keep bl W W2 ∧ (Boxed W2 w10.heap.size 3 (.int .i64 ((pre ++ [(pre.length, xv)]).length : Int)) ∧ Boxed W2 (w.heap.size + 1 + 1) 4 (.bool false)) ∧ But (w10.heap.size :: (w.heap.size + 1 + 1) :: bs9) w11 W2 ∧ QS QA (zs.length + 1) bs9 (pre ++ [(pre.length, xv)]) W2) := hE
                      clear hq2 hb2 HF1 HF2 Hq' hE
                      gi_wp2
                      exact HE.out
                · have hnd : Hid (¬ due zs pre.length (pre.length, xv)) := fun h => h2 h.2.2
                  have hvv : (xv != zs[pre.length]?.getD 0) = true := by simpa using h2
                  generalize zs[pre.length]?.getD 0 = y at *
                  gi_wp2
                  exact ⟨(KeepsOthers.setCell _ _ _).from _, rfl, pre, (pre.length, xv), rfl, hnd.out⟩
              · have hnd : Hid (¬ due zs pre.length (xi, xv)) := fun h => h1 h.1
                have hii : ((xi : Int) != (pre.length : Int)) = true := by simp; omega
                gi_wp2
                exact ⟨(KeepsOthers.setCell _ _ _).from _, rfl, pre, (xi, xv), rfl, hnd.out⟩
            case done2 =>
              rintro D2 xs W hD2 rfl ⟨⟨hS, hR⟩, hBt, b, ys, hq, hsub, hnil⟩ hdef
              rw [upto_length] at hS
              have hy : ys = [] := hnil (fun h => by
                have := congrArg List.length h
                rw [upto_length, List.length_nil] at this
                omega)
              subst hy
              have hn9 := HN9.out
              have hb11 := HBX.out
              have hNN : ∀ x, x < w11.heap.size → x ≠ w10.heap.size → x ≠ w.heap.size + 1 + 1 → x ∉ bs9 → x ∉ w10.heap.size :: (w.heap.size + 1 + 1) :: bs9 := fun x _ h1 h2 h3 h => by
                simp at h
                rcases h with h | h | h
                · exact h1 h
                · exact h2 h
                · exact h3 h
              have vN := (boxed_but hBt hb11.2.1 (hNN _ (by omega) (by omega) (by omega) (fun h => by have := hn9 _ h; omega))).cell
              have cQ := (boxed_but hBt hb11.2.2.1 (hNN _ (by omega) (by omega) (by omega) (fun h => by have := hn9 _ h; omega))).cell
              have hdD : W.heap[D]? = some (.deferred (some [])) := (hBt.block D (by omega) (hNN _ (by omega) (by omega) (by omega) (fun h => by have := hn9 _ h; omega))).trans hb11.2.2.2.2
              have hBel : Below w.heap.size w W := below_but HB11.out hBt (fun x hx => by
                simp at hx
                rcases hx with h | h | h
                · omega
                · omega
                · have := hn9 _ h
                  omega) (by omega)
              have vS := hS.cell
              have HRb : Hid (Boxed W (w.heap.size + 1 + 1) 4 (.bool false)) := hR
              have HLen : Hid (QP W 3 1 92 (some ⟨QA, 0, none⟩) b (zs.length + 1) []) := hq
              have hnn : ((zs.length : Int) == (zs.length : Int)) = true := by simp
              have HE0 : Hid (W.heap[D]? = some (.deferred (some [])) ∧ W.heap[D2]? = some (.deferred (some [])) ∧ Below w.heap.size w W ∧ w.heap.size + 3 ≤ D ∧ D < w11.heap.size ∧ w11.heap.size ≤ D2) := (⟨hdD, hdef, hBel, by omega, by omega, hD2⟩ : _)
              clear hn9 hb11 hNN hBt hq hsub hnil hS hR hdD hBel hdef hD2 hG
              gi_wp2_with fail
              refine ⟨trivial, ?_⟩
              refine (callsIn_wide.2 (qLen_I HLen.out)).mono ?_
              rintro e wl ⟨rfl, hbl⟩
              have hRl : Boxed wl (w.heap.size + 1 + 1) 4 (.bool false) := (hbl.block _ HRb.out.lt).trans HRb.out
              have vR := hRl.cell
              have fR := hRl.frozen
              have HE1 : Hid (Below W.heap.size W wl ∧ Boxed wl (w.heap.size + 1 + 1) 4 (.bool false)) := ⟨hbl, hRl⟩
              clear hbl hRl
              gi_wp2
              have h0 := HE0.out
              have h1 := HE1.out
              have hl1 := h1.2.lt
              have hD2l : D2 < W.heap.size := (Array.getElem?_eq_some_iff.1 h0.2.1).1
              have hDl : D < W.heap.size := (Array.getElem?_eq_some_iff.1 h0.1).1
              have hK2 : (wl.setCell ⟨w.heap.size + 1 + 1, 0, none⟩ (.bool true)).heap[D2]? = some (.deferred (some [])) := (Below.heap_setCell _ _ _ _ (fun e => by simp only at e; omega)).trans ((h1.1.block _ hD2l).trans h0.2.1)
              have hK1 : ((wl.setCell ⟨w.heap.size + 1 + 1, 0, none⟩ (.bool true)).putObj D2 (.deferred none)).heap[D]? = some (.deferred (some [])) := (World.putObj_heap_other (by omega)).trans ((Below.heap_setCell _ _ _ _ (fun e => by simp only at e; omega)).trans ((h1.1.block _ hDl).trans h0.1))
              have hRf : Boxed (((wl.setCell ⟨w.heap.size + 1 + 1, 0, none⟩ (.bool true)).putObj D2 (.deferred none)).putObj D (.deferred none)) (w.heap.size + 1 + 1) 4 (.bool true) := (World.putObj_heap_other (by omega)).trans ((World.putObj_heap_other (by omega)).trans (h1.2.set (.bool true)))
              have hcf := hRf.cell
              have hBf : Below w.heap.size w (((wl.setCell ⟨w.heap.size + 1 + 1, 0, none⟩ (.bool true)).putObj D2 (.deferred none)).putObj D (.deferred none)) :=
                ((bel_trans h0.2.2.1 h1.1).setCell (p := ⟨w.heap.size + 1 + 1, 0, none⟩) (by simp; omega) _).trans ((belowK_b (w := w) (Nat.le_refl _) _ D2 _ _ (by omega) hK2 rfl rfl).trans (belowK_b (w := w) (Nat.le_refl _) _ D _ _ (by omega) hK1 rfl rfl))
              refine ⟨by simp, .inl ⟨_, _, rfl, run_takeDeferred hK2, by simp, .inl ⟨_, _, rfl, run_takeDeferred hK1, ?_⟩⟩⟩
              refine ⟨.bool true, ?_, rfl, hBf⟩
              simp [results, Try.results5, go_sem, hcf]
            case stop2 =>
              rintro D2 cd pre W hD2 ⟨k', hk', hpre⟩ ⟨rfl, p', x', hp', hnd⟩ hdef
              exact (not_due hk' (hp'.symm.trans hpre) hnd).elim

end Rg
end Go.Proofs.Ytjhlflochheolaa
