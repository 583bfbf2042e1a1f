/- HELPER, no statement of the seat: nodes of plans, that came in, copied, measured and compared. -/
import Derived.Test.YtffgonddephkkaaEntL
import Derived.Test.YtffgonddephkkaaPred
namespace Go.Proofs.Ytffgonddephkkaa
open Go.ChangeShapes Go.WideShapes Go.ChangeAt Go.RowKit Go.Sort
set_option linter.unusedSimpArgs false
set_option linter.unusedVariables false

structure Nd where
  kind : Int
  a : Int
  b : Int
  key : Int
  cols : List Int
  pc : Int
  pk : Int
  pv : Int
  agg : Int
  col : Int
deriving DecidableEq
def ndC (A : Option Addr) (c : Nat) (n : Nd) : List Value := [.int .i64 n.kind, .int .i64 n.a, .int .i64 n.b, .int .i64 n.key, .slice A n.cols.length c, .int .i64 n.pc, .int .i64 n.pk, .int .i64 n.pv, .int .i64 n.agg, .int .i64 n.col]
def NdR : Rd Nd := fun w cs n => ∃ A c, cs = ndC A c n ∧ n.cols.length ≤ maxLen ∧ IntsAt w A n.cols
def NdO : Ow Nd := fun w S cs n => (∀ k, S k → k < w.heap.size) ∧ ∃ A c, cs = ndC A c n ∧ (∀ k, blk A = some k → S k) ∧ IntsOwn w 0 A c n.cols
theorem ndR : ROk NdR 10 := ⟨fun ⟨_, _, e, _⟩ => by rw [e]; rfl, fun ⟨A, c, e, l, h⟩ hb => ⟨A, c, e, l, h.below hb⟩⟩
theorem ndO : OOk NdO NdR 10 where
  len := fun ⟨_, _, _, e, _⟩ => by rw [e]; rfl
  lt := fun h => h.1
  loc := fun ⟨l, A, c, e, hS, h⟩ q => ⟨fun k hk => lt_of_heap (q k hk) (l k hk), A, c, e, hS, ownsRow_loc h (fun k hk => q k (hS k hk))⟩
  mono := fun ⟨_, A, c, e, hS, h⟩ s l => ⟨l, A, c, e, fun k hk => s k (hS k hk), h⟩
  rd := fun ⟨_, A, c, e, _, h⟩ => ⟨A, c, e, (by
    rcases ownsRow_form h with ⟨_, _, h3⟩ | ⟨g, _, _, _, h1, h2⟩
    · omega
    · omega), h.at_⟩
  one := fun ⟨_, _, _, e, _⟩ u hu => by
    rw [e] at hu
    simp [ndC] at hu
    rcases hu with rfl | rfl | rfl | rfl | rfl | rfl | rfl | rfl | rfl | rfl <;> rfl
abbrev NodesAt (w : World) (A : Option Addr) (ns : List Nd) : Prop := SlAt NdR 10 w A ns
abbrev NodesOw (w : World) (S : Fp) (A : Option Addr) (c : Nat) (ns : List Nd) : Prop := SlOw NdO 10 97 w S A c ns
theorem NodesAt.get {w : World} {A : Option Addr} {ns : List Nd} (h : NodesAt w A ns) (j : Nat) (hj : j < ns.length) :
    ∃ b off RA rc, A = some ⟨b, off, none⟩ ∧ b < w.heap.size ∧ (∀ i, i < 10 → w.cell? ⟨b, off + j * 10 + i, none⟩ = (ndC RA rc ns[j])[i]?) ∧ ns[j].cols.length ≤ maxLen ∧ IntsAt w RA ns[j].cols := by
  obtain ⟨b, off, rfl, hlt, hc⟩ := h (by omega)
  obtain ⟨cs, hl, hcell, RA, rc, rfl, l, hi⟩ := hc j hj
  exact ⟨b, off, RA, rc, rfl, hlt, hcell, l, hi⟩
def ncIn (ns : List Nd) (n : Nat) : Prop := ∀ e ∈ ns, e.cols.length ≤ n
theorem ncIn.get {ns : List Nd} {n : Nat} (h : ncIn ns n) {j : Nat} (hj : j < ns.length) : ns[j].cols.length ≤ n := h _ (List.getElem_mem hj)
theorem Try.infoNode : (Try.prog.info? 97).map (fun i => (i.zero, i.size, i.bytes)) = some (some (.agg #[.int .i64 0, .int .i64 0, .int .i64 0, .int .i64 0, .slice none 0 0, .int .i64 0, .int .i64 0, .int .i64 0, .int .i64 0, .int .i64 0]), 10, 96) := by kernel_rfl
section
variable {H : Type} {enc : TypeId × Value → H} {W : World} {P : Program}
theorem opens_struct8 {X0 X1 X2 X3 X4 X5 X6 X7 : Type} {R0 : Rd X0} {R1 : Rd X1} {R2 : Rd X2} {R3 : Rd X3} {R4 : Rd X4} {R5 : Rd X5} {R6 : Rd X6} {R7 : Rd X7} {s0 s1 s2 s3 s4 s5 s6 s7 : Nat} {t : TypeId} {f0 f1 f2 f3 f4 f5 f6 f7 : Field}
    (ht : P.underlying t = some (.struct #[f0, f1, f2, f3, f4, f5, f6, f7])) (hc : P.cellsOf t = s0 + (s1 + (s2 + (s3 + (s4 + (s5 + (s6 + (s7)))))))) (o0 : f0.offset = 0) (o1 : f1.offset = s0) (o2 : f2.offset = s0 + s1) (o3 : f3.offset = s0 + s1 + s2) (o4 : f4.offset = s0 + s1 + s2 + s3) (o5 : f5.offset = s0 + s1 + s2 + s3 + s4) (o6 : f6.offset = s0 + s1 + s2 + s3 + s4 + s5) (o7 : f7.offset = s0 + s1 + s2 + s3 + s4 + s5 + s6)
    (h0 : Opens enc P W f0.type R0 s0) (h1 : Opens enc P W f1.type R1 s1) (h2 : Opens enc P W f2.type R2 s2) (h3 : Opens enc P W f3.type R3 s3) (h4 : Opens enc P W f4.type R4 s4) (h5 : Opens enc P W f5.type R5 s5) (h6 : Opens enc P W f6.type R6 s6) (h7 : Opens enc P W f7.type R7 s7) : Opens enc P W t (PairR R0 (PairR R1 (PairR R2 (PairR R3 (PairR R4 (PairR R5 (PairR R6 (R7)))))))) (s0 + (s1 + (s2 + (s3 + (s4 + (s5 + (s6 + (s7)))))))) := by
  refine ⟨hc, fun n cs x hl h => ?_⟩
  obtain ⟨ys, k, hk, hxy, _, hxl, hf⟩ := DataW.trod_struct ht h
  have g0 := hf 0 f0 rfl
  rw [List.getElem?_eq_getElem (by rw [hxl]; simp)] at g0
  have g1 := hf 1 f1 rfl
  rw [List.getElem?_eq_getElem (by rw [hxl]; simp)] at g1
  have g2 := hf 2 f2 rfl
  rw [List.getElem?_eq_getElem (by rw [hxl]; simp)] at g2
  have g3 := hf 3 f3 rfl
  rw [List.getElem?_eq_getElem (by rw [hxl]; simp)] at g3
  have g4 := hf 4 f4 rfl
  rw [List.getElem?_eq_getElem (by rw [hxl]; simp)] at g4
  have g5 := hf 5 f5 rfl
  rw [List.getElem?_eq_getElem (by rw [hxl]; simp)] at g5
  have g6 := hf 6 f6 rfl
  rw [List.getElem?_eq_getElem (by rw [hxl]; simp)] at g6
  have g7 := hf 7 f7 rfl
  rw [List.getElem?_eq_getElem (by rw [hxl]; simp)] at g7
  rw [o0] at g0
  rw [o1] at g1
  rw [o2] at g2
  rw [o3] at g3
  rw [o4] at g4
  rw [o5] at g5
  rw [o6] at g6
  rw [o7] at g7
  exact opens_cons (s2 := s1 + (s2 + (s3 + (s4 + (s5 + (s6 + (s7))))))) h0 0 (by simpa using hl) (by simpa using g0) (by rw [Nat.zero_add]; exact opens_cons (s2 := s2 + (s3 + (s4 + (s5 + (s6 + (s7)))))) h1 (s0) (by omega) g1 (opens_cons (s2 := s3 + (s4 + (s5 + (s6 + (s7))))) h2 (s0 + s1) (by omega) g2 (opens_cons (s2 := s4 + (s5 + (s6 + (s7)))) h3 (s0 + s1 + s2) (by omega) g3 (opens_cons (s2 := s5 + (s6 + (s7))) h4 (s0 + s1 + s2 + s3) (by omega) g4 (opens_cons (s2 := s6 + (s7)) h5 (s0 + s1 + s2 + s3 + s4) (by omega) g5 (opens_cons (s2 := s7) h6 (s0 + s1 + s2 + s3 + s4 + s5) (by omega) g6 (opens_last h7 (s0 + s1 + s2 + s3 + s4 + s5 + s6) (by omega) g7)))))))
end
section
variable {H : Type} {enc : TypeId × Value → H} {W : World}
theorem opens_p3 : Opens enc Try.prog W 91 (PairR IntR (PairR IntR IntR)) (1 + (1 + 1)) :=
  opens_struct3 Try.underlying91 (by kernel_rfl) rfl rfl rfl (opens_int Try.underlying3 (by kernel_rfl)) (opens_int Try.underlying3 (by kernel_rfl)) (opens_int Try.underlying3 (by kernel_rfl))
theorem opens_node : Opens enc Try.prog W 93 NdR 10 := by
  have oi : Opens enc Try.prog W 3 IntR 1 := opens_int Try.underlying3 (by kernel_rfl)
  have h := opens_struct8 (enc := enc) (W := W) Try.underlying93 (by kernel_rfl) rfl rfl rfl rfl rfl rfl rfl rfl oi oi oi oi (opens_row Try.underlying58 (by kernel_rfl) Try.underlying3 (by kernel_rfl)) opens_p3 oi oi
  refine ⟨h.1, fun n cs x hl ht => ?_⟩
  obtain ⟨⟨k, a, b, y, cl, ⟨p, q, r⟩, g, l⟩, hv⟩ := h.2 n cs x hl ht
  obtain ⟨c1, d1, rfl, e1, c2, d2, rfl, e2, c3, d3, rfl, e3, c4, d4, rfl, e4, c5, d5, rfl, ⟨RA, rc, e5, hm, hA⟩, c6, d6, rfl, ⟨u1, v1, rfl, e6, u2, v2, rfl, e7, e8⟩, c7, c8, rfl, e9, e10⟩ := hv
  rw [show c1 = _ from e1, show c2 = _ from e2, show c3 = _ from e3, show c4 = _ from e4, e5, show u1 = _ from e6, show u2 = _ from e7, show v2 = _ from e8, show c7 = _ from e9, show c8 = _ from e10]
  exact ⟨⟨k, a, b, y, cl, p, q, r, g, l⟩, RA, rc, rfl, hm, hA⟩
theorem nodes_of {a : Option Addr} {len cap : Nat} {d : DataW H} {p : List MemPlace} (h : DataW.Trod enc Try.prog W 0 (fun _ => true) true 40 (.slice a len cap) d p) :
    ∃ ns : List Nd, len = ns.length ∧ ns.length ≤ maxLen ∧ NodesAt W a ns :=
  opens_at (opens_slice Try.underlying40 (by kernel_rfl) (by decide) opens_node) h
end
def colSum (es : List Nd) : Nat := (es.map fun e => e.cols.length).sum
theorem colSum_step {es : List Nd} {k : Nat} (h : k < es.length) : colSum (es.take (k + 1)) = colSum (es.take k) + es[k].cols.length := by
  rw [List.take_succ_eq_append_getElem h]
  simp only [colSum, List.map_append, List.sum_append, List.map_cons, List.map_nil, List.sum_cons, List.sum_nil, Nat.add_zero]
theorem colSum_le (es : List Nd) (k : Nat) : colSum (es.take k) ≤ colSum es := by
  have : colSum es = colSum (es.take k) + colSum (es.drop k) := by
    rw [colSum, colSum, colSum, ← List.sum_append, ← List.map_append, List.take_append_drop]
  omega

theorem szNode_any (RA : Option Addr) (rc n : Nat) (k a b y p q r g l left : Int) (w : World) (h0 : 0 ≤ left) (h1 : left ≤ 1048576) (hn : n ≤ maxLen) :
    Calls Try.prog 53 #[.agg #[.int .i64 k, .int .i64 a, .int .i64 b, .int .i64 y, .slice RA n rc, .int .i64 p, .int .i64 q, .int .i64 r, .int .i64 g, .int .i64 l], .int .i64 left] w fun e w' => e = .returned (.int .i64 (if left < n then -1 else left - n)) ∧ Below w.heap.size w w' := by
  unfold maxLen at hn
  by_cases h : left < n
  · have h' : left - n < 0 := by omega
    go_enter Try.func53, Try.ntmps53
    go_wp2
    go_ret
    exact ⟨ret_int (by simp [h]), bal (Below.refl _ _) _⟩
  · have h' : 0 ≤ left - n := by omega
    go_enter Try.func53, Try.ntmps53
    go_wp2
    go_ret
    exact ⟨ret_int (by simp [h]), bal (Below.refl _ _) _⟩
/-- The measure of a list of entries; what is left behind it. -/
def ndSz (es : List Nd) : Int := es.length + colSum es
def ndLeft (left : Int) (es : List Nd) : Int := if left < ndSz es then -1 else left - ndSz es
set_option maxHeartbeats 1600000 in
theorem szNodeS_any (A : Option Addr) (c : Nat) (es : List Nd) (left : Int) (w : World) (hx : NodesAt w A es) (h0 : 0 ≤ left) (h1 : left ≤ 1048576) (hn : es.length ≤ maxLen) :
    Calls Try.prog 20 #[.slice A es.length c, .int .i64 left] w fun e w' => e = .returned (.int .i64 (ndLeft left es)) ∧ Below w.heap.size w w' := by
  unfold maxLen at hn
  by_cases h : left < es.length
  · have h' : left - es.length < 0 := by omega
    have hr : left < ndSz es := by unfold ndSz; omega
    have HR := Lib.hid hr
    clear hr
    go_enter Try.func20, Try.ntmps20
    go_wp2
    go_ret
    exact ⟨ret_int (by rw [ndLeft, if_pos HR.out]), Below.refl _ _⟩
  have h' : 0 ≤ left - es.length := by omega
  go_enter Try.func20, Try.ntmps20
  go_wp2
  go_loopw [1, 5] (fun q i wr => ∃ k : Nat, k ≤ es.length ∧ i = .int .i64 k ∧ q = .int .i64 (left - es.length - colSum (es.take k)) ∧ es.length + colSum (es.take k) ≤ left ∧ Below w.heap.size w wr) (fun _ i _ => es.length - (intOf i).toNat)
  case atStart => exact ⟨0, by omega, rfl, by simp [colSum], by simp [colSum]; omega, Below.refl _ _⟩
  case round =>
    obtain ⟨k, hk, rfl, rfl, hq, hbel⟩ := hrel
    by_cases hlt : k < es.length
    · obtain ⟨b, off, RA, rc, rfl, hbl, hc, hml, -⟩ := hx.get k hlt
      have q0 : wr.cell? ⟨b, off + k * 10, none⟩ = some (.int .i64 es[k].kind) := (hbel.cell (p := ⟨b, off + k * 10, none⟩) hbl).trans (hc 0 (by omega))
      have q1 : wr.cell? ⟨b, off + k * 10 + 1, none⟩ = some (.int .i64 es[k].a) := (hbel.cell (p := ⟨b, off + k * 10 + 1, none⟩) hbl).trans (hc 1 (by omega))
      have q2 : wr.cell? ⟨b, off + k * 10 + 2, none⟩ = some (.int .i64 es[k].b) := (hbel.cell (p := ⟨b, off + k * 10 + 2, none⟩) hbl).trans (hc 2 (by omega))
      have q3 : wr.cell? ⟨b, off + k * 10 + 3, none⟩ = some (.int .i64 es[k].key) := (hbel.cell (p := ⟨b, off + k * 10 + 3, none⟩) hbl).trans (hc 3 (by omega))
      have q4 : wr.cell? ⟨b, off + k * 10 + 4, none⟩ = some (.slice RA es[k].cols.length rc) := (hbel.cell (p := ⟨b, off + k * 10 + 4, none⟩) hbl).trans (hc 4 (by omega))
      have q5 : wr.cell? ⟨b, off + k * 10 + 5, none⟩ = some (.int .i64 es[k].pc) := (hbel.cell (p := ⟨b, off + k * 10 + 5, none⟩) hbl).trans (hc 5 (by omega))
      have q6 : wr.cell? ⟨b, off + k * 10 + 6, none⟩ = some (.int .i64 es[k].pk) := (hbel.cell (p := ⟨b, off + k * 10 + 6, none⟩) hbl).trans (hc 6 (by omega))
      have q7 : wr.cell? ⟨b, off + k * 10 + 7, none⟩ = some (.int .i64 es[k].pv) := (hbel.cell (p := ⟨b, off + k * 10 + 7, none⟩) hbl).trans (hc 7 (by omega))
      have q8 : wr.cell? ⟨b, off + k * 10 + 8, none⟩ = some (.int .i64 es[k].agg) := (hbel.cell (p := ⟨b, off + k * 10 + 8, none⟩) hbl).trans (hc 8 (by omega))
      have q9 : wr.cell? ⟨b, off + k * 10 + 9, none⟩ = some (.int .i64 es[k].col) := (hbel.cell (p := ⟨b, off + k * 10 + 9, none⟩) hbl).trans (hc 9 (by omega))
      have HT := Lib.hid (colSum_step hlt)
      have HL := Lib.hid (colSum_le es (k + 1))
      have hql : 0 ≤ left - es.length - colSum (es.take k) := by omega
      by_cases hs : left - es.length - colSum (es.take k) < es[k].cols.length
      · have hr : left < ndSz es := by have := HT.out; have := HL.out; unfold ndSz; omega
        have HR := Lib.hid hr
        clear hr hc
        go_wp2_with (go_at_call 53; refine (szNode_any _ _ _ _ _ _ _ _ _ _ _ _ _ _ hql (by omega) hml).mono ?_; rintro e w1 ⟨rfl, hb1⟩; rw [if_pos hs])
        go_ret
        exact ⟨ret_int (by rw [ndLeft, if_pos HR.out]), btr hbel hb1⟩
      · clear hc
        go_wp2_with (go_at_call 53; refine (szNode_any _ _ _ _ _ _ _ _ _ _ _ _ _ _ hql (by omega) hml).mono ?_; rintro e w1 ⟨rfl, hb1⟩; rw [if_neg hs]; have hge : 0 ≤ left - es.length - colSum (es.take k) - es[k].cols.length := by omega)
        go_roundw
        case rel => exact ⟨k + 1, by omega, by go_num, by rw [HT.out]; go_num, by rw [HT.out]; omega, btr hbel hb1⟩
        case measure => simp [intOf]; omega
    · obtain rfl : k = es.length := by omega
      rw [List.take_length] at hq
      have hr : ndSz es ≤ left := by unfold ndSz; omega
      have HR := Lib.hid hr
      have HT := Lib.hid (List.take_length (l := es))
      clear hr
      go_wp2
      go_ret
      exact ⟨ret_int (by rw [ndLeft, if_neg (Int.not_lt.2 HR.out), HT.out]; unfold ndSz; omega), hbel⟩

end Go.Proofs.Ytffgonddephkkaa
