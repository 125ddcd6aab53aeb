/-
  The walk of RingWalk: what it stands on.
-/
import Derived.Test.YtjhlflochheolaaMgG
import Derived.Test.YtjhlflochheolaaMgD
import Derived.Test.YtjhlflochheolaaMgE
import Derived.Test.YtjhlflochheolaaMgA
import Derived.Stop.RegionWithIn
import Derived.Laws.EntriesVeiled
import Derived.Sort.QuietIn
import Derived.Sort.QuietTacIn
import Derived.Sort.CutIn
set_option maxRecDepth 100000
set_option linter.unusedVariables false
set_option linter.unusedSimpArgs false
namespace Go.Proofs.Ytjhlflochheolaa
open Go.RowKit Go.Shelf
attribute [local go_sem] Oper.semAt_some
namespace Rg

def kdN (k n : Int) : Int := (k.tmod n + n) % n
theorem kdN_bd (k n : Int) (hn : 1 ≤ n) : 0 ≤ kdN k n ∧ kdN k n < n := by
  unfold kdN
  exact ⟨Int.emod_nonneg _ (by omega), Int.emod_lt_of_pos _ (by omega)⟩

theorem kindN_any (w : World) (k n : Int) (hk0 : -9223372036854775808 ≤ k) (hk1 : k ≤ 9223372036854775807) (hn0 : 1 ≤ n) (hn1 : n ≤ 4611686018427387903) : Calls Try.prog 9 #[.int .i64 k, .int .i64 n] w fun e w' => e = .returned (.int .i64 (kdN k n)) ∧ w' = w := by
  have h1 : -n < k.tmod n := by have := Int.lt_tmod_of_pos k (show 0 < n by omega); omega
  have h2 := Int.tmod_lt_of_pos k (show 0 < n by omega)
  have h3 : (n == 0) = false := beq_eq_false_iff_ne.2 (by omega)
  have h4 : ¬ n = 0 := by omega
  have HK : Hid (kdN k n = (k.tmod n + n) % n) := (rfl : _ = _)
  have hb := kdN_bd k n hn0
  rw [HK.out] at hb
  have hw1 : IntKind.i64.wrap (k.tmod n) = k.tmod n := by rw [IntKind.wrap_i64]; omega
  have hw2 : IntKind.i64.wrap (k.tmod n + n) = k.tmod n + n := by rw [IntKind.wrap_i64]; omega
  have hw3 : IntKind.i64.wrap ((k.tmod n + n) % n) = (k.tmod n + n) % n := by rw [IntKind.wrap_i64]; omega
  go_enter Try.func9, Try.ntmps9
  go_wp2
  go_ret
  exact ⟨by rw [HK.out]; rfl, rfl⟩

theorem ownFrom_but {β : Type} {bs : List Nat} {w0 : World} {B : Nat} (hB : w0.heap.size ≤ B) : OwnFrom B (fun (_ : β) W => But bs w0 W) := fun _ W W' row h hg hr =>
  ⟨hg.os.trans h.os, hg.tape.trans h.tape, hg.output.trans h.output, Nat.le_trans h.size hg.size, fun k hk hn => (hg.block k (Nat.lt_of_lt_of_le hk h.size) (fun e => by have := (hr k e.symm).1; omega)).trans (h.block k hk hn)⟩
theorem QP.but0 {w w' : World} {E S QT : Nat} {p : Option Addr} {bs : List Nat} {cap : Nat} {xs : List (List Value)} (H : QP w E S QT p bs cap xs) {cs : List Nat} (b : But cs w w') (hd : ∀ x, x ∈ bs → x ∉ cs) : QP w' E S QT p bs cap xs := by
  rcases H with h | ⟨qp, sv, head, n, ds, h1, rfl, H, h3⟩
  · exact .inl h
  · refine .inr ⟨qp, sv, head, n, ds, h1, rfl, ⟨b.heap H.str (hd qp (by simp)), b.owns H.own (fun g hg => hd g (by simp [hg])), H.sep, H.cap1, H.cap2, H.hn, H.hc, H.hh, H.grow⟩, h3⟩
theorem QP.cells {w : World} {E S QT : Nat} {p : Option Addr} {bs : List Nat} {cap : Nat} {xs : List (List Value)} (H : QP w E S QT p bs cap xs) : ∀ b ∈ bs, ∃ o : Obj, w.heap[b]? = some o ∧ o.isCells = true := by
  rcases H with ⟨_, rfl, _⟩ | ⟨qp, sv, head, n, cs, h1, rfl, H, h3⟩
  · intro b hb; cases hb
  · intro b hb
    rcases List.mem_cons.1 hb with rfl | hb
    · exact ⟨_, H.str, rfl⟩
    · rcases H.own.2 with ⟨rfl, _⟩ | ⟨g, cap', cur, rfl, _, hg, _⟩
      · simp [Value.ownBlock] at hb
      · have : b = g := by simpa [Value.ownBlock] using hb
        subst this
        exact ⟨_, hg, rfl⟩
theorem QP.ltq {w : World} {E S QT : Nat} {p : Option Addr} {bs : List Nat} {cap : Nat} {xs : List (List Value)} (H : QP w E S QT p bs cap xs) : ∀ b ∈ bs, b < w.heap.size := fun b hb => by
  obtain ⟨o, h, _⟩ := H.cells b hb
  exact (Array.getElem?_eq_some_iff.1 h).1
theorem keeps_but {bs : List Nat} {w w' : World} (b : But bs w w') (h : ∀ x ∈ bs, ∃ o : Obj, w.heap[x]? = some o ∧ o.isCells = true) : KeepsOthers w w' :=
  ⟨b.size, fun k o hk ho => b.heap hk (fun e => by obtain ⟨o', h1, h2⟩ := h k e; rw [hk] at h1; injection h1 with h1; subst h1; rw [ho] at h2; cases h2)⟩
theorem ownFrom_qp {β : Type} {B E S QT cap : Nat} {p : Option Addr} {f : β → List (List Value)} {bs : List Nat} : OwnFrom B (fun (s : β) W => QP W E S QT p bs cap (f s)) := fun s W W' row h hg hr => by
  refine h.but0 (cs := row.toList) ⟨hg.os, hg.tape, hg.output, hg.size, fun k hk hn => hg.block k hk (fun e => hn (by rw [← e]; simp))⟩ (fun x hx hc => ?_)
  have hc' : row = some x := by simpa using hc
  obtain ⟨o, h1, h2⟩ := h.cells x hx
  obtain ⟨_, o', h3, h4⟩ := hr x hc'
  rw [h1] at h3
  injection h3 with h3
  subst h3
  rw [h2] at h4
  cases h4
theorem boxed_but {bs : List Nat} {w w' : World} (h : But bs w w') {B t : Nat} {v : Value} (hb : Boxed w B t v) (hn : B ∉ bs) : Boxed w' B t v := h.heap hb hn
theorem but_step {QA : Nat} {bs : List Nat} {w4 wr wn : World} (h : But [QA] w4 wr) (k : But bs wr wn) (hb : ∀ b ∈ bs, b = QA ∨ w4.heap.size ≤ b) : But [QA] w4 wn :=
  ⟨k.os.trans h.os, k.tape.trans h.tape, k.output.trans h.output, Nat.le_trans h.size k.size, fun i hi hn => (k.block i (Nat.lt_of_lt_of_le hi h.size) (fun e => by
    rcases hb i e with h' | h'
    · exact hn (by rw [h']; simp)
    · omega)).trans (h.block i hi hn)⟩
/-- The pair that is due. -/
def due (zs : List Int) (j : Nat) (x : Nat × Int) : Prop := x.1 = j ∧ j < zs.length ∧ x.2 = zs[j]?.getD 0
theorem not_due {zs : List Int} {k : Nat} {pre : List (Nat × Int)} {x : Nat × Int} (hk : k ≤ zs.length) (h : pre ++ [x] = upto (fun j => (j, zs[j]?.getD 0)) k) (hn : ¬ due zs pre.length x) : False := by
  have hl := congrArg List.length h
  rw [List.length_append, upto_length, List.length_singleton] at hl
  obtain ⟨k', rfl⟩ : ∃ k', k = k' + 1 := ⟨k - 1, by omega⟩
  rw [upto_succ] at h
  have h2 := List.append_inj_right' h rfl
  injection h2 with h2 _
  apply hn
  have : pre.length = k' := by omega
  rw [h2, this]
  exact ⟨rfl, by omega, rfl⟩

/-- How a round is left: with a pair that is not due, or at the pair at which it is broken off. -/
def Ix1 (zs : List Int) (S6 R2 : Nat) (K : Int) (w7 : World) (id : Nat) (cd : Code) (pre : List (Nat × Int)) (W : World) : Prop :=
  (cd = Code.ret ∧ ∃ (p : List (Nat × Int)) (x : Nat × Int), pre = p ++ [x] ∧ ¬ due zs p.length x) ∨ (cd = Code.exit id ∧ Boxed W S6 3 (.int .i64 (pre.length : Int)) ∧ Boxed W R2 4 (.bool false) ∧ But [S6, R2] w7 W ∧ (pre.length : Int) = K + 1)
theorem ix1_own (zs : List Int) (S6 R2 : Nat) (K : Int) (w7 : World) (id : Nat) (cd : Code) : OwnFrom w7.heap.size (Ix1 zs S6 R2 K w7 id cd) := fun s X Y row hh hg hr => by
  rcases hh with h | ⟨e, hb, hb2, hbt, hk⟩
  · exact .inl h
  · exact .inr ⟨e, (Own.from (boxed_own S6 3 (fun pre : List (Nat × Int) => Value.int .i64 (pre.length : Int))) w7.heap.size) s X Y row hb hg hr, (Own.from (boxed_own (β := Unit) R2 4 (fun _ => Value.bool false)) w7.heap.size) () X Y row hb2 hg hr, (ownFrom_but (β := Unit) (bs := [S6, R2]) (w0 := w7) (Nat.le_refl _)) () X Y row hbt hg hr, hk⟩

end Rg
end Go.Proofs.Ytjhlflochheolaa
