/-
  ring: the law's lists.
-/
import Derived.Test.YtclciccgcegpmaaMgF
import Derived.Deep.RegionHeld3
set_option linter.unusedVariables false
set_option linter.unusedSimpArgs false
namespace Go.Proofs.Ytclciccgcegpmaa
open Go.RowKit
namespace Rg

/-- What a call leaves of a ring: its head, what waits. -/
def lsR (cap h : Nat) (xs : List UInt8) (o : Op) : Nat × List UInt8 :=
  if kd o.k = 2 then (pl cap (pl cap h (rch xs.length 0 o.n)) (rch (xs.drop (rch xs.length 0 o.n)).length 0 o.n), (xs.drop (rch xs.length 0 o.n)).drop (rch (xs.drop (rch xs.length 0 o.n)).length 0 o.n))
  else if kd o.k = 3 then (h, xs ++ o.p.take (min o.p.length (cap - xs.length))) else (h, xs)
theorem box4 {W : World} {b T : Nat} {x y z u : Value} (h : W.heap[b]? = some (.cells #[x, y, z, u] T (0, 0))) : W.cell? ⟨b, 0, none⟩ = some x ∧ W.cell? ⟨b, 1, none⟩ = some y ∧ W.cell? ⟨b, 2, none⟩ = some z ∧ W.cell? ⟨b, 3, none⟩ = some u := by
  have : ∀ k : Nat, W.cell? ⟨b, k, none⟩ = #[x, y, z, u][k]? := fun k => by simp [World.cell?, h]
  exact ⟨by simpa using this 0, by simpa using this 1, by simpa using this 2, by simpa using this 3⟩
/-- What lists hands out. -/
def LsOf (w : World) (p : Option Addr) (bs : List Nat) (cap : Nat) (hx : Nat × List UInt8) (e : Ending) (w' : World) : Prop :=
  ∃ (lb n : Nat) (U : Nat → Value) (Y : Nat → List Value), e = .returned (.slice (some ⟨lb, 0, none⟩) n n) ∧ n ≤ 4 ∧ w.heap.size ≤ lb ∧ w'.heap[lb]? = some (.cells ((List.range n).map U).toArray 25 (0, 0)) ∧ Ks w.heap.size n U Y w' ∧ (∀ i g, i < n → (U i).ownBlock = some g → g ≠ lb) ∧ RingP w' p bs cap hx.1 hx.2 ∧ But bs w w'
theorem LsOf.mk {w w1 wz : World} {p : Option Addr} {bs : List Nat} {cap h n : Nat} {xs : List UInt8} {U : Nat → Value} {Y : Nat → List Value} {cs : Array Value} (hn : n ≤ 4) (hz : w.heap.size ≤ w1.heap.size) (K : Ks w1.heap.size n U Y wz) (hc : cs = ((List.range n).map U).toArray) (hR : RingP wz p bs cap h xs) (hb : But bs w wz) :
    LsOf w p bs cap (h, xs) (.returned (.slice (some ⟨wz.heap.size, 0, none⟩) n n)) (wz.alloc (.cells cs 25)) := by
  have hbl : Below wz.heap.size wz (wz.alloc (.cells cs 25)) := (Below.refl _ wz).alloc (Nat.le_refl _) _
  refine ⟨wz.heap.size, n, U, Y, rfl, hn, hb.size, ?_, (K.mono hz).below hbl, fun i g hi hg => ?_, hR.below hbl, hb.alloc _⟩
  · rw [hc]; exact heap_alloc_new _ _
  · have := (K.lt hi hg).2
    omega

theorem Ks.two {B : Nat} {v u : Value} {l m : List UInt8} {n1 n2 : Nat} {w : World} (h1 : w.ownsRow B 5 1 v n1 (bv l)) (h2 : w.ownsRow B 5 1 u n2 (bv m)) (ha : ∀ g, v.ownBlock = some g → u.ownBlock ≠ some g) (hl : l.length ≤ 1048576) (hm : m.length ≤ 1048576) : Ks B 2 (lay 1 (fun _ => v) (fun _ => u)) (lay 1 (fun _ => bv l) (fun _ => bv m)) w := by
  refine ⟨fun i hi => ?_, fun i j g hi hj hne hg => ?_, fun i hi => ?_, fun i hi => ?_⟩
  · match i, hi with
    | 0, _ => exact ownB h1
    | 1, _ => exact ownB h2
  · match i, j, hi, hj with
    | 0, 0, _, _ => exact (hne rfl).elim
    | 0, 1, _, _ => exact ha g hg
    | 1, 0, _, _ => exact fun e => ha g e hg
    | 1, 1, _, _ => exact (hne rfl).elim
  · match i, hi with
    | 0, _ => show (bv l).length ≤ _; unfold bv; rw [List.length_map]; exact hl
    | 1, _ => show (bv m).length ≤ _; unfold bv; rw [List.length_map]; exact hm
  · match i, hi with
    | 0, _ => exact bv_byte l
    | 1, _ => exact bv_byte m

set_option maxRecDepth 100000 in
set_option maxHeartbeats 4000000 in
theorem lists_any {w : World} {p : Option Addr} {bs : List Nat} {cap h : Nat} {xs : List UInt8} (H : RingP w p bs cap h xs) (o : Op) (u : Value) (hu : RdB w u o.p)
    (k0 : -9223372036854775808 ≤ o.k) (k1 : o.k ≤ 9223372036854775807) (i0 : -9223372036854775808 ≤ o.i) (i1 : o.i ≤ 9223372036854775807) (n0 : -9223372036854775808 ≤ o.n) (n1 : o.n ≤ 9223372036854775807) (hp : o.p.length ≤ 1048576) :
    Calls Try.prog 6 #[.pointer p, .agg #[.int .i64 o.k, .int .i64 o.i, .int .i64 o.n, u]] w fun e w' => LsOf w p bs cap (lsR cap h xs o) e w' := by
  obtain ⟨hxl, hcap⟩ := H.hlen
  have HU0 : Hid (RdB w u o.p) := hu
  obtain ⟨au, cu, rfl, hcu, _⟩ := hu
  have HBS : Hid (∀ x ∈ bs, x < w.heap.size) := H.lt
  obtain ⟨w1, hw1⟩ : ∃ w1, w1 = w.alloc (.cells #[.int .i64 o.k, .int .i64 o.i, .int .i64 o.n, .slice au o.p.length cu] 32) := ⟨_, rfl⟩
  have HB1 : Hid (Below w.heap.size w w1) := (by rw [hw1]; exact (Below.refl _ w).alloc (Nat.le_refl _) _ : Below _ _ _)
  have HC1 : Hid (w1.heap[w.heap.size]? = some (.cells #[.int .i64 o.k, .int .i64 o.i, .int .i64 o.n, .slice au o.p.length cu] 32 (0, 0))) := (by rw [hw1]; exact heap_alloc_new _ _ : _ = _)
  have HR1 : Hid (RingP w1 p bs cap h xs) := H.below HB1.out
  have hz1 : w.heap.size < w1.heap.size := by rw [hw1]; simp
  have HCW : Hid (∀ W, Below w1.heap.size w1 W → W.cell? ⟨w.heap.size, 1, none⟩ = some (.int .i64 o.i) ∧ W.cell? ⟨w.heap.size, 2, none⟩ = some (.int .i64 o.n) ∧ W.cell? ⟨w.heap.size, 3, none⟩ = some (.slice au o.p.length cu)) := (fun W hb => by
    obtain ⟨_, h1, h2, h3⟩ := box4 ((hb.block _ hz1).trans HC1.out)
    exact ⟨h1, h2, h3⟩ : ∀ W, _)
  have HK : Hid (∀ W, Calls _ _ _ W _) := fun W => kind4 W o.k k0 k1
  have hk4 := kd_lt o.k
  obtain ⟨d0, d1, d2, d3⟩ := box4 HC1.out
  have HLs : Hid (lsR cap h xs o = _) := (by unfold lsR; exact rfl)
  have HU1 : Hid (RdB w1 (.slice au o.p.length cu) o.p) := HU0.out.below HB1.out
  generalize lsR cap h xs o = R at *
  go_enter Try.func6, Try.ntmps6
  go_wp2_with fail
  rw [← hw1]
  clear hw1
  refine (HK.out _).mono ?_
  rintro e w2 ⟨rfl, hw2⟩
  rw [hw2]
  clear hw2
  generalize kd o.k = kk at *
  have hb1n : But bs w w1 := (But.of_below HB1.out).nil
  have HBN : Hid (But bs w w1) := hb1n
  clear hb1n
  have HBd : Hid (Below w1.heap.size w1 w1.drew) := (Below.refl _ _).drew
  obtain ⟨e1, e2, e3⟩ := HCW.out _ HBd.out
  have HAl : Hid (∀ (W : World) (ob : Obj), (W.cell? ⟨w.heap.size, 1, none⟩ = some (.int .i64 o.i) ∧ W.cell? ⟨w.heap.size, 2, none⟩ = some (.int .i64 o.n)) → ((W.alloc ob).cell? ⟨w.heap.size, 1, none⟩ = some (.int .i64 o.i) ∧ (W.alloc ob).cell? ⟨w.heap.size, 2, none⟩ = some (.int .i64 o.n))) := (fun W ob hS => by
    have hb : Below W.heap.size W (W.alloc ob) := (Below.refl _ W).alloc (Nat.le_refl _) ob
    exact ⟨(hb.cell (p := ⟨w.heap.size, 1, none⟩) (World.block_lt_of_cell? W _ hS.1)).trans hS.1, (hb.cell (p := ⟨w.heap.size, 2, none⟩) (World.block_lt_of_cell? W _ hS.2)).trans hS.2⟩ : ∀ (W : World) (ob : Obj), _)
  match kk, hk4 with
  | 0, _ =>
    obtain ⟨m1, hm1⟩ : ∃ m1, m1 = rch xs.length o.i o.n := ⟨_, rfl⟩
    have hml : m1 ≤ xs.length := by rw [hm1]; exact rch_le _ _ _
    have HM1 : Hid (m1 = rch xs.length o.i o.n) := hm1
    clear hm1
    have HRr : Hid (R = (h, xs)) := (by rw [HLs.out]; simp : R = _)
    have HB : Hid (Below w1.heap.size w1 w1.drew) := HBd
    have HKs : Hid (Ks w1.heap.size 0 (fun _ => .slice none 0 0) (fun _ => []) w1.drew) := Ks.none _ _ _ _
    have HS : Hid (w1.drew.cell? ⟨w.heap.size, 1, none⟩ = some (.int .i64 o.i) ∧ w1.drew.cell? ⟨w.heap.size, 2, none⟩ = some (.int .i64 o.n)) := ⟨e1, e2⟩
    go_wp2_with fail
    go_region_held3 (fun W => W.cell? ⟨w.heap.size, 1, none⟩ = some (.int .i64 o.i) ∧ W.cell? ⟨w.heap.size, 2, none⟩ = some (.int .i64 o.n)) (first | with_reducible exact HS.out | with_reducible exact HAl.out _ _ HS.out | go_keep) (first
      | (go_at_call 12; have hln := HLn.out; refine (PeekP (HR1.out.below HB.out) 0 ((xs.length : Nat) : Int) (by omega) (by omega) (by omega) (by omega) xs.length (by rw [rch_zero]; omega)).mono ?_; rintro e wa ⟨v1, rfl, ho1, hb1⟩; have HKs : Hid (Ks w1.heap.size _ _ _ wa) := Ks.snoc HKs.out hb1 ho1 (by rw [List.length_take]; omega) HB.out.size; have HB : Hid (Below w1.heap.size w1 wa) := bel_trans HB.out hb1; have HS : Hid (wa.cell? ⟨w.heap.size, 1, none⟩ = some (.int .i64 o.i) ∧ wa.cell? ⟨w.heap.size, 2, none⟩ = some (.int .i64 o.n)) := (⟨(HCW.out _ HB.out).1, (HCW.out _ HB.out).2.1⟩ : _ ∧ _); obtain ⟨a1, c1, rfl, _⟩ := owns_slice ho1; clear ho1 hb1 hln)
      | (go_at_call 12; refine (PeekP (HR1.out.below HB.out) o.i o.n i0 i1 n0 n1 m1 HM1.out).mono ?_; rintro e wa ⟨v1, rfl, ho1, hb1⟩; have HKs : Hid (Ks w1.heap.size _ _ _ wa) := Ks.snoc HKs.out hb1 ho1 (by rw [List.length_take]; omega) HB.out.size; have HB : Hid (Below w1.heap.size w1 wa) := bel_trans HB.out hb1; have HS : Hid (wa.cell? ⟨w.heap.size, 1, none⟩ = some (.int .i64 o.i) ∧ wa.cell? ⟨w.heap.size, 2, none⟩ = some (.int .i64 o.n)) := (⟨(HCW.out _ HB.out).1, (HCW.out _ HB.out).2.1⟩ : _ ∧ _); obtain ⟨a1, c1, rfl, _⟩ := owns_slice ho1; clear ho1 hb1)
      | (go_at_call 13; refine (LenP (HR1.out.below HB.out)).mono ?_; rintro e wa ⟨rfl, hb1⟩; have HLn : Hid True := trivial; have HKs : Hid (Ks w1.heap.size _ _ _ wa) := HKs.out.below hb1; have HB : Hid (Below w1.heap.size w1 wa) := bel_trans HB.out hb1; have HS : Hid (wa.cell? ⟨w.heap.size, 1, none⟩ = some (.int .i64 o.i) ∧ wa.cell? ⟨w.heap.size, 2, none⟩ = some (.int .i64 o.n)) := (⟨(HCW.out _ HB.out).1, (HCW.out _ HB.out).2.1⟩ : _ ∧ _); clear hb1))
    all_goals
      go_wp2
      go_ret
      rw [HRr.out]
      exact LsOf.mk (n := 3) (by omega) (Nat.le_of_lt hz1) HKs.out (by simp [List.range_succ, lay]) (HR1.out.below HB.out) (HBN.out.trans (But.of_below HB.out).nil)
  | 1, _ =>
    have HRr : Hid (R = (h, xs)) := (by rw [HLs.out]; simp : R = _)
    have hq1 : (part1 cap h xs).length ≤ 1048576 := by unfold part1; rw [List.length_take]; omega
    have hq2 : (part2 cap h xs).length ≤ 1048576 := by unfold part2; rw [List.length_drop]; omega
    go_wp2_with fail
    refine (PartsQ HR1.out).mono ?_
    rintro e wa ⟨v1, v2, rfl, ho1, ho2, hap, hb1⟩
    have HKa : Hid (Ks w1.heap.size 2 _ _ wa) := Ks.two ho1 ho2 hap hq1 hq2
    have HBa : Hid (Below w1.heap.size w1 wa) := hb1
    obtain ⟨a1, c1, rfl, _⟩ := owns_slice ho1
    obtain ⟨a2, c2, rfl, _⟩ := owns_slice ho2
    clear ho1 ho2 hap hb1
    go_wp2_with fail
    refine (PartsQ (HR1.out.below HBa.out)).mono ?_
    rintro e wb ⟨v3, v4, rfl, ho1, ho2, hap, hb1⟩
    have HKb : Hid (Ks w1.heap.size (2 + 2) _ _ wb) := Ks.app (HKa.out.below hb1) (fun i g hi hg => (HKa.out.lt hi hg).2) (Ks.two ho1 ho2 hap hq1 hq2) HBa.out.size
    have HBb : Hid (Below w1.heap.size w1 wb) := bel_trans HBa.out hb1
    obtain ⟨a3, c3, rfl, _⟩ := owns_slice ho1
    obtain ⟨a4, c4, rfl, _⟩ := owns_slice ho2
    clear ho1 ho2 hap hb1
    go_wp2
    go_ret
    rw [HRr.out]
    exact LsOf.mk (n := 4) (by omega) (Nat.le_of_lt hz1) HKb.out (by simp [List.range_succ, lay]) (HR1.out.below HBb.out) (HBN.out.trans (But.of_below HBb.out).nil)
  | 2, _ =>
    obtain ⟨m1, hm1⟩ : ∃ m1, m1 = rch xs.length 0 o.n := ⟨_, rfl⟩
    have HM1 : Hid (m1 = rch xs.length 0 o.n) := hm1
    rw [← hm1] at HLs
    obtain ⟨m2, hm2⟩ : ∃ m2, m2 = rch (xs.drop m1).length 0 o.n := ⟨_, rfl⟩
    have HM2 : Hid (m2 = rch (xs.drop m1).length 0 o.n) := hm2
    rw [← hm2] at HLs
    clear hm1 hm2
    have HRr : Hid (R = (pl cap (pl cap h m1) m2, (xs.drop m1).drop m2)) := (by rw [HLs.out]; simp : R = _)
    have HNB : Hid (∀ g, w1.heap.size ≤ g → g ∉ bs) := (fun g hg hb => by have := HBS.out g hb; omega : ∀ g, _)
    have HCB : Hid (∀ W, But bs w1 W → W.cell? ⟨w.heap.size, 2, none⟩ = some (.int .i64 o.n)) := (fun W hb => by
      obtain ⟨_, _, h2, _⟩ := box4 (hb.heap HC1.out (fun hx => by have := HBS.out _ hx; omega))
      exact h2 : ∀ W, _)
    have HAl2 : Hid (∀ (W : World) (ob : Obj), W.cell? ⟨w.heap.size, 2, none⟩ = some (.int .i64 o.n) → (W.alloc ob).cell? ⟨w.heap.size, 2, none⟩ = some (.int .i64 o.n)) := (fun W ob hS => by
      have hb : Below W.heap.size W (W.alloc ob) := (Below.refl _ W).alloc (Nat.le_refl _) ob
      exact (hb.cell (p := ⟨w.heap.size, 2, none⟩) (World.block_lt_of_cell? W _ hS)).trans hS : ∀ (W : World) (ob : Obj), _)
    have HBt : Hid (But bs w1 w1.drew) := (But.refl _ _).drew
    have HRa : Hid (RingP w1.drew p bs cap h xs) := HR1.out.below HBd.out
    have HS : Hid (w1.drew.cell? ⟨w.heap.size, 2, none⟩ = some (.int .i64 o.n)) := e2
    go_wp2_with fail
    go_region_held3 (fun W => W.cell? ⟨w.heap.size, 2, none⟩ = some (.int .i64 o.n)) (first | with_reducible exact HS.out | with_reducible exact HAl2.out _ _ HS.out | go_keep) (first
      | (go_at_call 16; have hfl := HFl.out; refine (TakeP HRa.out o.n n0 n1 m2 HM2.out).mono ?_; rintro e wb ⟨v2, rfl, ho2, hr2, hb2⟩; have HK2 : Hid (Ks w1.heap.size (1 + 1) _ _ wb) := Ks.app (HK1.out.but hb2 (fun i g hi hg => HNB.out g (HK1.out.lt hi hg).1)) (fun i g hi hg => (HK1.out.lt hi hg).2) (Ks.one ho2 (by rw [List.length_take, List.length_drop]; omega)) HBt.out.size; have HBt : Hid (But bs w1 wb) := HBt.out.trans hb2; have HRa : Hid (RingP wb p bs cap (pl cap (pl cap h m1) m2) ((xs.drop m1).drop m2)) := hr2; have HS : Hid (wb.cell? ⟨w.heap.size, 2, none⟩ = some (.int .i64 o.n)) := HCB.out _ HBt.out; obtain ⟨a2, c2, rfl, _⟩ := owns_slice ho2; clear ho2 hb2 hr2 hfl)
      | (go_at_call 16; refine (TakeP HRa.out o.n n0 n1 m1 HM1.out).mono ?_; rintro e wa ⟨v1, rfl, ho1, hr1, hb1⟩; have HFl : Hid True := trivial; have HK1 : Hid (Ks w1.heap.size 1 _ _ wa) := Ks.one ho1 (by rw [List.length_take]; omega); have HBt : Hid (But bs w1 wa) := HBt.out.trans hb1; have HRa : Hid (RingP wa p bs cap (pl cap h m1) (xs.drop m1)) := hr1; have HS : Hid (wa.cell? ⟨w.heap.size, 2, none⟩ = some (.int .i64 o.n)) := HCB.out _ HBt.out; obtain ⟨a1, c1, rfl, _⟩ := owns_slice ho1; clear ho1 hb1 hr1))
    all_goals
      go_wp2
      go_ret
      rw [HRr.out]
      exact LsOf.mk (n := 2) (by omega) (Nat.le_of_lt hz1) HK2.out (by simp [List.range_succ, lay]) HRa.out (HBN.out.trans HBt.out)
  | 3, _ =>
    obtain ⟨n, hn⟩ : ∃ n, n = min o.p.length (cap - xs.length) := ⟨_, rfl⟩
    have HN : Hid (n = min o.p.length (cap - xs.length)) := hn
    have hnl : n ≤ cap - xs.length := by omega
    rw [← hn] at HLs
    clear hn
    have HRr : Hid (R = (h, xs ++ o.p.take n)) := (by rw [HLs.out]; simp : R = _)
    have hp48 : o.p.length ≤ 140737488355328 := by omega
    go_wp2_with (at_builtin; go_must (refine wp_new rfl (.tmp 60) (.tmp 62) rfl w1 _ o.p o.p.length rfl rfl rfl HU1.out hp48 ?_; intro aq cq w4 ho4 hb4))
    have HO4 : Hid (w4.ownsRow w1.heap.size 5 1 (.slice aq o.p.length cq) o.p.length (bv o.p)) := ho4
    have HB4 : Hid (Below w1.heap.size w1 w4) := hb4
    clear ho4 hb4
    refine (PutP (HR1.out.below HB4.out) _ o.p (RdB.ofOwn HO4.out) (fun g hg hb => by have := owns_fresh HO4.out g hg; have := HBS.out g hb; omega) (by omega) n HN.out).mono ?_
    rintro e w5 ⟨rfl, hP5, hb5⟩
    have HR5 : Hid (RingP w5 p bs cap h (xs ++ o.p.take n)) := hP5
    have HB5 : Hid (But bs w1 w5) := (But.of_below HB4.out).nil.trans hb5
    obtain ⟨ys, hys⟩ : ∃ ys, ys = xs ++ o.p.take n := ⟨_, rfl⟩
    rw [← hys] at HR5 HRr
    have hyl : ys.length ≤ 1048576 := by have := HR5.out.hlen; omega
    clear hP5 hb5 hys
    go_wp2_with fail
    refine (LenP HR5.out).mono ?_
    rintro e w6 ⟨rfl, hb6⟩
    have HR6 : Hid (RingP w6 p bs cap h ys) := HR5.out.below hb6
    have HB6 : Hid (But bs w1 w6) := HB5.out.trans (But.of_below hb6).nil
    clear hb6
    go_wp2_with fail
    refine (PeekP HR6.out 0 ((ys.length : Nat) : Int) (by omega) (by omega) (by omega) (by omega) ys.length (by rw [rch_zero]; omega)).mono ?_
    rintro e w7 ⟨v1, rfl, ho7, hb7⟩
    have HK7 : Hid (Ks w1.heap.size 1 _ _ w7) := Ks.mono (Ks.one ho7 (by rw [List.length_take]; omega)) HB6.out.size
    have HR7 : Hid (RingP w7 p bs cap h ys) := HR6.out.below hb7
    have HB7 : Hid (But bs w1 w7) := HB6.out.trans (But.of_below hb7).nil
    obtain ⟨a1, c1, rfl, _⟩ := owns_slice ho7
    clear ho7 hb7
    go_wp2
    go_ret
    rw [HRr.out]
    exact LsOf.mk (n := 1) (by omega) (Nat.le_of_lt hz1) HK7.out (by simp [List.range_succ, lay]) HR7.out (HBN.out.trans HB7.out)

end Rg
end Go.Proofs.Ytclciccgcegpmaa
