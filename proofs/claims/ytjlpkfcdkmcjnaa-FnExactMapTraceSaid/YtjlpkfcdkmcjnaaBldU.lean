/- HELPER, no statement of the seat: the program's builder of sums, at updates. -/
import Derived.Test.YtjlpkfcdkmcjnaaBldM
import Derived.Test.YtjlpkfcdkmcjnaaUpdN
import Derived.Deep.RegionHeld3
import Derived.Deep.RegionLaw
import Derived.Deep.AppendLies
import Derived.Deep.DrawnRows
namespace Go.Proofs.Ytjlpkfcdkmcjnaa
open Go.RowKit Go.Sort
set_option linter.unusedSimpArgs false
set_option linter.unusedVariables false
attribute [local go_sem ↓] Go.wp_at_zero Go.wp_at_succ

theorem UpdR.mk {w : World} {A : Option Addr} {c : Nat} {xs : List Int} {p q x : Int} (l : xs.length ≤ maxLen) (h : IntsAt w A xs) : UpdR w [.slice A xs.length c, .int .i64 p, .int .i64 q, .int .i64 x] ((xs, (p, q)), x) :=
  ⟨[_, _, _], [_], rfl, ⟨[_], [_, _], rfl, ⟨A, c, rfl, l, h⟩, ⟨[_], [_], rfl, rfl, rfl⟩⟩, rfl⟩
theorem UpdR.of {w : World} {A : Option Addr} {c : Nat} (e : Upd) {x : Int} (l : e.1.1.length ≤ maxLen) (h : IntsAt w A e.1.1) : UpdR w [.slice A e.1.1.length c, .int .i64 e.1.2.1, .int .i64 e.1.2.2, .int .i64 x] (e.1, x) := by
  obtain ⟨⟨a, b, d⟩, y⟩ := e
  exact UpdR.mk l h
theorem compare_u (RA RB : Option Addr) (c d : Nat) (x y : Upd) (w : World) (hx : IntsAt w RA x.1.1) (hy : IntsAt w RB y.1.1) (hn : x.1.1.length ≤ 4194304) (hm : y.1.1.length ≤ 4194304) :
    Calls Try.prog 243 #[.agg #[.slice RA x.1.1.length c, .int .i64 x.1.2.1, .int .i64 x.1.2.2, .int .i64 x.2], .agg #[.slice RB y.1.1.length d, .int .i64 y.1.2.1, .int .i64 y.1.2.2, .int .i64 y.2]] w fun e w' => e = .returned (.int .i64 (cmpKU x.1 y.1)) ∧ Below w.heap.size w w' :=
  updCompare_i RA RB c d x.1.1 y.1.1 _ _ _ _ _ _ w hx hy hn hm
theorem m_plusU (v p q u : Value) (w : World) : (method 325 102 (.agg #[v, p, q, u]) "loop.example/dataflow/impl.plus").run Try.prog w = .ok (246, .agg #[v, p, q, u]) w := by kernel_rfl
set_option maxHeartbeats 800000 in
theorem plus_u (RA : Option Addr) (n rc : Nat) (u : Value) (p q r s x y : Int) (w : World) (h0 : -1099511627776 ≤ x) (h1 : x ≤ 1099511627776) (h2 : -1099511627776 ≤ y) (h3 : y ≤ 1099511627776) :
    Calls Try.prog 246 #[.agg #[.slice RA n rc, .int .i64 p, .int .i64 q, .int .i64 x], .agg #[u, .int .i64 r, .int .i64 s, .int .i64 y]] w fun e w' => e = .returned (.agg #[.slice RA n rc, .int .i64 p, .int .i64 q, .int .i64 (x + y)]) ∧ Below w.heap.size w w' := by
  go_enter Try.func246, Try.ntmps246
  go_wp2
  exact bodyPost_ret (v := .agg #[.slice RA n rc, .int .i64 p, .int .i64 q, .int .i64 (x + y)]) (by simp [results, Try.results246, go_sem]) rfl ⟨rfl, (by repeat (first | exact Below.refl _ _ | refine bal ?_ _ | refine bset ?_ (by simp; try omega) _ | refine Below.drew ?_))⟩

/-- The builder that lies in the first block behind w0 holds es; their rows are read in w0. -/
structure BAtU (w0 w : World) (A : Option Addr) (c : Nat) (es : List Upd) (css : List (List Value)) : Prop where
  bel : Below w0.heap.size w0 w
  bk : Blk w w0.heap.size 160 #[.slice A es.length c]
  row : w.ownsRow (w0.heap.size + 1) 102 4 (.slice A es.length c) es.length css.flatten
  rd : RdL UpdR w0 css es
theorem BAtU.below {w0 w w' : World} {A : Option Addr} {c : Nat} {es : List Upd} {css : List (List Value)} (h : BAtU w0 w A c es css) (hb : Below w.heap.size w w') : BAtU w0 w' A c es css :=
  ⟨btr h.bel hb, h.bk.below hb, ownsRow_below h.row hb, h.rd⟩
/-- A new builder. -/
theorem BAtU.new (w0 : World) : BAtU w0 (w0.alloc (.cells #[.slice none 0 0] 160)) none 0 [] [] :=
  ⟨bal (Below.refl _ _) _, Blk.newAt rfl, World.ownsRow_nil _ _ _ _, RdL.nil⟩

/-- What add leaves. -/
def AddedU (w0 : World) (es : List Upd) (w' : World) : Prop := ∃ A c css, BAtU w0 w' A c es css

/-- One more element behind the others. -/
theorem BAtU.push {w0 w4 w1 : World} {A : Option Addr} {c n gg cap : Nat} {es : List Upd} {css : List (List Value)} {RA : Option Addr} {rc : Nat} {e : Upd} {o : Obj} (h : BAtU w0 w4 A c es css) (hx : UpdR w0 [.slice RA e.1.1.length rc, .int .i64 e.1.2.1, .int .i64 e.1.2.2, .int .i64 e.2] e) (hn : es.length = n)
    (hown : w1.ownsRow (w0.heap.size + 1) 102 4 (.slice (some ⟨gg, 0, none⟩) (n + 1) cap) (n + 1) (css.flatten ++ [.slice RA e.1.1.length rc, .int .i64 e.1.2.1, .int .i64 e.1.2.2, .int .i64 e.2])) (hgrow : (w4.alloc o).drew.grownBy w1 (Value.slice A n c).ownBlock) :
    AddedU w0 (es ++ [e]) (w1.setCell ⟨w0.heap.size, 0, none⟩ (.slice (some ⟨gg, 0, none⟩) (n + 1) cap)) := by
  have hl := h.bk.lt
  rw [ownBlock_slice] at hgrow
  have hA : ∀ k, blk A = some k → w0.heap.size + 1 ≤ k ∧ k < w4.heap.size := fun k hk => row_lt h.row k hk
  have hb1 : RowKit.Below w0.heap.size w0 w1 := (Below.drew (bal h.bel o)).grown hgrow (by simp; omega) (fun k hk => by have := (hA k hk).1; omega)
  have hk1 : Blk w1 w0.heap.size 160 #[.slice A es.length c] :=
    (hgrow.block w0.heap.size (by simp; omega) (fun e => by have := (hA _ e.symm).1; omega)).trans (((Below.heap_alloc _ _ _ hl)).trans h.bk)
  have hk2 := hk1.set_ 0 (.slice (some ⟨gg, 0, none⟩) (n + 1) cap)
  have e1 : (es ++ [e]).length = n + 1 := by simp [hn]
  have e2 : (css ++ [[Value.slice RA e.1.1.length rc, Value.int .i64 e.1.2.1, Value.int .i64 e.1.2.2, Value.int .i64 e.2]]).flatten = css.flatten ++ [.slice RA e.1.1.length rc, .int .i64 e.1.2.1, .int .i64 e.1.2.2, .int .i64 e.2] := by simp
  refine ⟨some ⟨gg, 0, none⟩, cap, css ++ [[Value.slice RA e.1.1.length rc, Value.int .i64 e.1.2.1, Value.int .i64 e.1.2.2, Value.int .i64 e.2]], ⟨bset hb1 (by simp) _, by rw [e1]; simpa using hk2, ?_, h.rd.snoc hx⟩⟩
  rw [e1, e2]
  exact ownsRow_far hown (by simp) _
/-- The weight of the last one has turned. -/
theorem BAtU.last {w0 w : World} {A : Option Addr} {c g : Nat} {m : List Upd} {y : Upd} {css : List (List Value)} {RA : Option Addr} {rc : Nat} {x : Int} (hA : A = some ⟨g, 0, none⟩) (h : BAtU w0 w A c (m ++ [y]) css) (hy : UpdR w0 [.slice RA y.1.1.length rc, .int .i64 y.1.2.1, .int .i64 y.1.2.2, .int .i64 y.2] y) :
    AddedU w0 (m ++ [(y.1, y.2 + x)]) ((((w.setCell ⟨g, m.length * 4, none⟩ (.slice RA y.1.1.length rc)).setCell ⟨g, m.length * 4 + 1, none⟩ (.int .i64 y.1.2.1)).setCell ⟨g, m.length * 4 + 2, none⟩ (.int .i64 y.1.2.2)).setCell ⟨g, m.length * 4 + 3, none⟩ (.int .i64 (y.2 + x))) := by
  subst hA
  have hg := row_lt h.row g rfl
  have hcl : css.length = m.length + 1 := by rw [h.rd.len]; simp
  have hrow := h.row
  have e0 : (m ++ [y]).length = m.length + 1 := by simp
  have e1 : (m ++ [(y.1, y.2 + x)]).length = m.length + 1 := by simp
  rw [e0] at hrow
  have hst := (World.ownsRow.stored (World.ownsRow.stored (World.ownsRow.stored (World.ownsRow.stored hrow (m.length * 4) (.slice RA y.1.1.length rc)).1 (m.length * 4 + 1) (.int .i64 y.1.2.1)).1 (m.length * 4 + 2) (.int .i64 y.1.2.2)).1 (m.length * 4 + 3) (.int .i64 (y.2 + x))).1
  rw [flat_set4 (h.rd.elen updR) m.length (by omega)] at hst
  obtain ⟨RA', rc', hcs, hml, hrw⟩ := hy.form
  injection hcs with c1 c2
  injection c1 with c3 c4 c5
  subst c3
  subst c5
  have hrd := h.rd.set_ m.length (UpdR.of (c := rc) y (x := y.2 + x) hml hrw)
  have e2 : (m ++ [y]).set m.length (y.1, y.2 + x) = m ++ [(y.1, y.2 + x)] := by rw [List.set_append_right _ _ (Nat.le_refl _)]; simp
  rw [e2] at hrd
  refine ⟨some ⟨g, 0, none⟩, c, _, ⟨bset (bset (bset (bset h.bel (by simp; omega) _) (by simp; omega) _) (by simp; omega) _) (by simp; omega) _, ?_, ?_, hrd⟩⟩
  · have := h.bk
    rw [e0] at this
    rw [e1]
    exact (((this.far (p := ⟨g, m.length * 4, none⟩) (by simp; omega) _).far (p := ⟨g, m.length * 4 + 1, none⟩) (by simp; omega) _).far (p := ⟨g, m.length * 4 + 2, none⟩) (by simp; omega) _).far (p := ⟨g, m.length * 4 + 3, none⟩) (by simp; omega) _
  · rw [e1]
    exact hst
theorem snocAtU {w : World} {base g c : Nat} {E : TypeId} {m : List Upd} {y : Upd} {css : List (List Value)} {w0 : World} (hr : w.ownsRow base E 4 (.slice (some ⟨g, 0, none⟩) (m.length + 1) c) (m.length + 1) css.flatten) (rd : RdL UpdR w0 css (m ++ [y])) :
    ∃ RA rc, UpdR w0 [.slice RA y.1.1.length rc, .int .i64 y.1.2.1, .int .i64 y.1.2.2, .int .i64 y.2] y ∧ w.cell? ⟨g, m.length * 4, none⟩ = some (.slice RA y.1.1.length rc) ∧ w.cell? ⟨g, m.length * 4 + 1, none⟩ = some (.int .i64 y.1.2.1) ∧ w.cell? ⟨g, m.length * 4 + 2, none⟩ = some (.int .i64 y.1.2.2) ∧ w.cell? ⟨g, m.length * 4 + 3, none⟩ = some (.int .i64 y.2) ∧ y.1.1.length ≤ maxLen ∧ IntsAt w0 RA y.1.1 := by
  have hcl : css.length = m.length + 1 := by rw [rd.len]; simp
  have h1 : m.length < css.length := by omega
  have h2 : m.length < (m ++ [y]).length := by simp
  have he := rd.elt m.length h1 h2
  rw [show (m ++ [y])[m.length] = y by simp] at he
  obtain ⟨RA, rc, hcs, hml, hrow⟩ := he.form
  have cell : ∀ i, i < 4 → w.cell? ⟨g, m.length * 4 + i, none⟩ = (css[m.length])[i]? := fun i hi => by
    rw [World.ownsRow.cellAt hr (m.length * 4 + i) (by omega), flat_get (rd.elen updR) m.length h1 i hi]
  have c0 := cell 0 (by omega)
  have c1 := cell 1 (by omega)
  have c2 := cell 2 (by omega)
  have c3 := cell 3 (by omega)
  rw [hcs] at c0 c1 c2 c3
  exact ⟨RA, rc, by rw [← hcs]; exact he, by simpa using c0, by simpa using c1, by simpa using c2, by simpa using c3, hml, hrow⟩

set_option maxRecDepth 100000 in
set_option maxHeartbeats 6400000 in
theorem addB_u (w0 w : World) (A : Option Addr) (c : Nat) (es : List Upd) (css : List (List Value)) (h : BAtU w0 w A c es css) (RA : Option Addr) (rc : Nat) (e : Upd) (hx : UpdR w0 [.slice RA e.1.1.length rc, .int .i64 e.1.2.1, .int .i64 e.1.2.2, .int .i64 e.2] e) (hn : es.length ≤ 1048576) (hr : rowsU es 4194304) (hr2 : e.1.1.length ≤ 4194304) (hw : wIn es 1099511627776) (h0 : -1099511627776 ≤ e.2) (h1 : e.2 ≤ 1099511627776) :
    Calls Try.prog 187 #[.pointer (some ⟨w0.heap.size, 0, none⟩), .agg #[.slice RA e.1.1.length rc, .int .i64 e.1.2.1, .int .i64 e.1.2.2, .int .i64 e.2]] w fun r w' => r = .returned (.tuple #[]) ∧ AddedU w0 (addM es e) w' := by
  obtain ⟨i0, hi, hz0, hz1, hz2⟩ := info_parts Try.infoUpd
  have hlt : w0.heap.size < w.heap.size := h.bk.lt
  have nb1 : ∀ k, blk A = some k → w0.heap.size < k ∧ k < w.heap.size := fun k hk => by have := row_lt h.row k hk; omega
  have ne1 : ∀ n', (Value.slice A n' c).ownBlock ≠ some w0.heap.size := fun n' hh => by have := (nb1 _ (by rw [ownBlock_slice] at hh; exact hh)).1; omega
  have HX := Lib.hid hx
  rcases snoc_cases es with rfl | ⟨m, y, rfl⟩
  · have q0 : w.cell? ⟨w0.heap.size, 0, none⟩ = some (.slice A 0 c) := by simpa using h.bk.one
    have H := Lib.hid h
    have HN : Hid (([] : List Upd).length = 0) := rfl
    have HADD : Hid (addM [] e = [] ++ [e]) := rfl
    clear h hx hr hw hn
    go_enter Try.func187, Try.ntmps187
    go_wp2_with fail
    refine abs_world (fun W => BAtU w0 W A c [] css ∧ Blk W w.heap.size 102 #[.slice RA e.1.1.length rc, .int .i64 e.1.2.1, .int .i64 e.1.2.2, .int .i64 e.2]) ⟨H.out.below (bal (RowKit.Below.refl _ _) _), Blk.newAt rfl⟩ ?_
    rintro W ⟨hBW, hkW⟩
    clear H q0
    refine wp_region_quiet_below (by kernel_rfl) (by kernel_rfl) ?_
    repeat (go_big_quiet_step (fail))
    refine wpQuiet_nil ?_
    intro wq hwq
    obtain ⟨⟨dq, osq⟩, rfl⟩ := hwq
    have hbq := below_regrown W dq osq
    generalize grow (redrawn W dq) osq = w4 at hbq
    have hB4 := hBW.below hbq
    have hk4 := hkW.below hbq
    clear hBW hkW hbq
    have q0 := hB4.bk.one
    have b0 := hk4.cell 0
    have b1 := hk4.cell 1
    have b2 := hk4.cell 2
    have b3 := hk4.cell 3
    have f0 := hB4.bk.frozen 0
    simp at q0 b0 b1 b2 b3
    have hlt4 := hB4.bk.lt
    have hbx := hk4.lt
    have rown := hB4.row
    simp only [List.length_nil] at rown
    have HB4 := Lib.hid hB4
    clear hB4 hk4
    have fa : ∀ o : Obj, (w4.alloc o).frozen? ⟨w0.heap.size, 0, none⟩ = false := fun o => ((bal (RowKit.Below.refl w4.heap.size w4) o).frozen (p := ⟨w0.heap.size, 0, none⟩) hlt4).trans f0
    have ca : ∀ o : Obj, (w4.alloc o).cell? ⟨w0.heap.size, 0, none⟩ = some (.slice A (0) c) := fun o => ((bal (RowKit.Below.refl w4.heap.size w4) o).cell (p := ⟨w0.heap.size, 0, none⟩) hlt4).trans q0
    go_wp2_with fail
    go_region_law ((first
      | (refine step_append_lies _ (by rfl) _ _ _ (by rfl) (w0.heap.size + 1) 102 i0 _ 4 48 Try.underlying55 hi hz0 hz1 hz2 rfl (by omega) (.slice A 0 c) 0 css.flatten (by rfl) ((rown.alloc _).drew) ⟨w4.heap.size, 0, none⟩ 1 1 [.slice RA e.1.1.length rc, .int .i64 e.1.2.1, .int .i64 e.1.2.2, .int .i64 e.2] (by rfl) (by rfl) (World.news_of_block (cs := #[.slice RA e.1.1.length rc, .int .i64 e.1.2.1, .int .i64 e.1.2.2, .int .i64 e.2]) (t := 102) (fr := (0, 0)) (heap_alloc_new w4 _)) (by simp [Value.oneCell']) (by omega) (by unfold maxLen; omega) (by omega) (by simp; omega) (w4.heap.size + 1) (by simp) ?_; intro gg cap w1 hown1 hgrow hat hlt'; have z0 := hgrow.cell_far ⟨w0.heap.size, 0, none⟩ (by simp; omega) (Ne.symm (ne1 0)); have z3 := hgrow.frozen_far ⟨w0.heap.size, 0, none⟩ (by simp; omega) (Ne.symm (ne1 0)))))
    all_goals go_wp2
    all_goals go_end0
    all_goals exact ⟨rfl, by rw [HADD.out]; exact HB4.out.push HX.out HN.out hown1 hgrow⟩
  · have hml : (m ++ [y]).length = m.length + 1 := by simp
    rw [hml] at hn
    obtain ⟨g, rfl⟩ : ∃ g, A = some ⟨g, 0, none⟩ := by
      rcases ownsRow_form h.row with ⟨_, _, h3⟩ | ⟨g, h1, _⟩
      · simp at h3
      · exact ⟨g, h1⟩
    have q0 : w.cell? ⟨w0.heap.size, 0, none⟩ = some (.slice (some ⟨g, 0, none⟩) (m.length + 1) c) := by rw [← hml]; exact h.bk.one
    have hyr : y.1.1.length ≤ 4194304 := hr y (by simp)
    have hyw := hw y (by simp)
    have hyw1 := hyw.1
    have hyw2 := hyw.2
    have hg0 : w0.heap.size < g := (nb1 g rfl).1
    have hgw : g < w.heap.size := (nb1 g rfl).2
    have H := Lib.hid h
    have HN : Hid ((m ++ [y]).length = m.length + 1) := hml
    have hi1 : (0 : Int) ≤ (m.length : Int) := by omega
    have hi2 : (m.length : Int) < (m.length : Int) + 1 := by omega
    have hmm := m_compareU
    have hmp := m_plusU
    by_cases he : y.1 = e.1
    · have HADD : Hid (addM (m ++ [y]) e = m ++ [(y.1, y.2 + e.2)]) := by simp [Hid, addM_snoc, he]
      have hz : (cmpKU y.1 e.1 == 0) = true := by simp [cmpKU_zero.2 he]
      clear h hx hr hw hml hyw he
      go_enter Try.func187, Try.ntmps187
      go_wp2_with fail
      refine abs_world (fun W => BAtU w0 W (some ⟨g, 0, none⟩) c (m ++ [y]) css ∧ Blk W w.heap.size 102 #[.slice RA e.1.1.length rc, .int .i64 e.1.2.1, .int .i64 e.1.2.2, .int .i64 e.2]) ⟨H.out.below (bal (RowKit.Below.refl _ _) _), Blk.newAt rfl⟩ ?_
      rintro W ⟨hBW, hkW⟩
      clear H q0
      have hrW := hBW.row
      rw [HN.out] at hrW
      obtain ⟨RY, ry, hey, y0, y1, y2, y3, hym, hyrow⟩ := snocAtU hrW hBW.rd
      have hqW := hBW.bk.one
      rw [HN.out] at hqW
      have r0 := cgrow hqW
      have r1 := cgrow y0
      have r2 := cgrow y1
      have r21 := cgrow y2
      have r22 := cgrow y3
      have r3 := cgrow (hkW.cell 0)
      have r4 := cgrow (hkW.cell 1)
      have r5 := cgrow (hkW.cell 2)
      have r6 := cgrow (hkW.cell 3)
      simp at r3 r4 r5 r6
      obtain ⟨RA2, rc2, hcs2, hem, herow⟩ := HX.out.form
      injection hcs2 with hc1 hc2
      injection hc1 with hc3 hc4 hc5
      subst hc3
      subst hc5
      have hcon := fun W' (hW : RowKit.Below W.heap.size W W') => compare_u RY RA ry rc y e W' ((hyrow.below hBW.bel).below hW) ((herow.below hBW.bel).below hW) (by omega) (by omega)
      refine wp_region_quiet_below (by kernel_rfl) (by kernel_rfl) ?_
      repeat (go_big_quiet_step (exact Calls.regrown_of (hcon _ (below_regrown _ _ _))))
      refine wpQuiet_nil ?_
      intro wq hwq
      obtain ⟨⟨dq, osq⟩, rfl⟩ := hwq
      have hbq := below_regrown W dq osq
      generalize grow (redrawn W dq) osq = w4 at hbq
      have hB4 := hBW.below hbq
      have hk4 := hkW.below hbq
      clear r0 r1 r2 r21 r22 r3 r4 r5 r6 hcon hqW y0 y1 y2 y3 hrW hbq
      have q0 := hB4.bk.one
      have b0 := hk4.cell 0
      have b1 := hk4.cell 1
      have b2 := hk4.cell 2
      have b3 := hk4.cell 3
      have rown := hB4.row
      rw [HN.out] at q0 rown
      simp at b0 b1 b2 b3
      obtain ⟨RY2, ry2, hey2, y0, y1, y2, y3, hym2, hyrow2⟩ := snocAtU rown hB4.rd
      have f0 := World.ownsRow.frozenAt rown (m.length * 4)
      have f1 := World.ownsRow.frozenAt rown (m.length * 4 + 1)
      have f2 := World.ownsRow.frozenAt rown (m.length * 4 + 2)
      have f3 := World.ownsRow.frozenAt rown (m.length * 4 + 3)
      have hlt4 := hB4.bk.lt
      have hbx := hk4.lt
      have hg4 := (row_lt rown g rfl).2
      have HB4 := Lib.hid hB4
      clear hBW hkW hk4 hB4 hey
      go_wp2_with fail
      refine wp_region_facts [[], [0], [1], [2], [], [], [5], [6], [7], [], [8, 9], [10], [11], [], [12, 13], [3, 4]]
        [fun v' _ => v' = .pointer (some ⟨w0.heap.size, 0, none⟩), fun v' _ => v' = .pointer (some ⟨w0.heap.size, 0, none⟩), fun v' _ => v' = .pointer (some ⟨w0.heap.size, 0, none⟩), fun v' _ => v' = .slice (some ⟨g, 0, none⟩) (m.length + 1) c, fun v' _ => v' = .int .i64 (m.length : Int), fun v' _ => v' = .pointer (some ⟨w0.heap.size, 0, none⟩), fun v' _ => v' = .pointer (some ⟨w0.heap.size, 0, none⟩), fun v' _ => v' = .pointer (some ⟨w0.heap.size, 0, none⟩), fun v' _ => v' = .slice (some ⟨g, 0, none⟩) (m.length + 1) c, fun v' _ => v' = .int .i64 (m.length : Int), fun v' _ => v' = .pointer (some ⟨g, m.length * 4, none⟩), fun v' _ => v' = .agg #[.slice RY2 y.1.1.length ry2, .int .i64 y.1.2.1, .int .i64 y.1.2.2, .int .i64 y.2], fun v' _ => v' = .iface 102 (.agg #[.slice RY2 y.1.1.length ry2, .int .i64 y.1.2.1, .int .i64 y.1.2.2, .int .i64 y.2]), fun v' _ => v' = .agg #[.slice RA e.1.1.length rc, .int .i64 e.1.2.1, .int .i64 e.1.2.2, .int .i64 e.2], fun v' _ => v' = .agg #[.slice RY2 y.1.1.length ry2, .int .i64 y.1.2.1, .int .i64 y.1.2.2, .int .i64 (y.2 + e.2)], fun v' _ => v' = .pointer (some ⟨g, m.length * 4, none⟩)]
        (by kernel_rfl) (by kernel_rfl) rfl ⟨stable_pure _, stable_pure _, stable_pure _, stable_pure _, stable_pure _, stable_pure _, stable_pure _, stable_pure _, stable_pure _, stable_pure _, stable_pure _, stable_pure _, stable_pure _, stable_pure _, stable_pure _, stable_pure _, trivial⟩ ?_
      refine wf_step (fun wf hb hf => ?_) (fun t0 => ?_)
      · go_wp2
        exact ⟨rfl, _, rfl, RowKit.Below.refl _ _, rfl⟩
      refine wf_step (fun wf hb hf => ?_) (fun t1 => ?_)
      · obtain ⟨rfl, -⟩ := hf
        go_wp2
        exact ⟨rfl, _, rfl, RowKit.Below.refl _ _, rfl⟩
      refine wf_step (fun wf hb hf => ?_) (fun t2 => ?_)
      · obtain ⟨rfl, -⟩ := hf
        go_wp2
        exact ⟨rfl, _, rfl, RowKit.Below.refl _ _, rfl⟩
      refine wf_step (fun wf hb hf => ?_) (fun t3 => ?_)
      · obtain ⟨rfl, -⟩ := hf
        have c0 := (hb.cell (p := ⟨w0.heap.size, 0, none⟩) hlt4).trans q0
        go_wp2
        exact ⟨rfl, _, rfl, RowKit.Below.refl _ _, rfl⟩
      refine wf_step (fun wf hb hf => ?_) (fun t4 => ?_)
      · go_wp2
        exact ⟨rfl, _, rfl, RowKit.Below.refl _ _, rfl⟩
      refine wf_step (fun wf hb hf => ?_) (fun t5 => ?_)
      · go_wp2
        exact ⟨rfl, _, rfl, RowKit.Below.refl _ _, rfl⟩
      refine wf_step (fun wf hb hf => ?_) (fun t6 => ?_)
      · obtain ⟨rfl, -⟩ := hf
        go_wp2
        exact ⟨rfl, _, rfl, RowKit.Below.refl _ _, rfl⟩
      refine wf_step (fun wf hb hf => ?_) (fun t7 => ?_)
      · obtain ⟨rfl, -⟩ := hf
        go_wp2
        exact ⟨rfl, _, rfl, RowKit.Below.refl _ _, rfl⟩
      refine wf_step (fun wf hb hf => ?_) (fun t8 => ?_)
      · obtain ⟨rfl, -⟩ := hf
        have c0 := (hb.cell (p := ⟨w0.heap.size, 0, none⟩) hlt4).trans q0
        go_wp2
        exact ⟨rfl, _, rfl, RowKit.Below.refl _ _, rfl⟩
      refine wf_step (fun wf hb hf => ?_) (fun t9 => ?_)
      · go_wp2
        exact ⟨rfl, _, rfl, RowKit.Below.refl _ _, rfl⟩
      refine wf_step (fun wf hb hf => ?_) (fun t10 => ?_)
      · obtain ⟨rfl, rfl, -⟩ := hf
        go_wp2
        exact ⟨rfl, _, rfl, RowKit.Below.refl _ _, by simp⟩
      refine wf_step (fun wf hb hf => ?_) (fun t11 => ?_)
      · obtain ⟨rfl, -⟩ := hf
        have c0 := (hb.cell (p := ⟨g, m.length * 4, none⟩) hg4).trans y0
        have c1 := (hb.cell (p := ⟨g, m.length * 4 + 1, none⟩) hg4).trans y1
        have c2 := (hb.cell (p := ⟨g, m.length * 4 + 2, none⟩) hg4).trans y2
        have c3 := (hb.cell (p := ⟨g, m.length * 4 + 3, none⟩) hg4).trans y3
        go_wp2
        exact ⟨rfl, _, rfl, RowKit.Below.refl _ _, rfl⟩
      refine wf_step (fun wf hb hf => ?_) (fun t12 => ?_)
      · obtain ⟨rfl, -⟩ := hf
        go_wp2
        exact ⟨rfl, _, rfl, RowKit.Below.refl _ _, rfl⟩
      refine wf_step (fun wf hb hf => ?_) (fun t13 => ?_)
      · have c0 := (hb.cell (p := ⟨w.heap.size, 0, none⟩) hbx).trans b0
        have c1 := (hb.cell (p := ⟨w.heap.size, 1, none⟩) hbx).trans b1
        have c2 := (hb.cell (p := ⟨w.heap.size, 2, none⟩) hbx).trans b2
        have c3 := (hb.cell (p := ⟨w.heap.size, 3, none⟩) hbx).trans b3
        go_wp2
        exact ⟨rfl, _, rfl, RowKit.Below.refl _ _, rfl⟩
      refine wf_step (fun wf hb hf => ?_) (fun t14 => ?_)
      · obtain ⟨rfl, rfl, -⟩ := hf
        go_wp2_with (go_at_call 246; refine (plus_u _ _ _ _ _ _ _ _ _ _ _ hyw1 hyw2 h0 h1).mono ?_; rintro e w2 ⟨rfl, hb2⟩)
        exact ⟨rfl, .agg #[.slice RY2 y.1.1.length ry2, .int .i64 y.1.2.1, .int .i64 y.1.2.2, .int .i64 (y.2 + e.2)], by simp [Act.put], hb2, rfl⟩
      refine wf_step (fun wf hb hf => ?_) (fun t15 => ?_)
      · obtain ⟨rfl, rfl, -⟩ := hf
        go_wp2
        exact ⟨rfl, _, rfl, RowKit.Below.refl _ _, by simp⟩
      refine wf_done (fun wC hb hf => ?_)
      obtain ⟨rfl, rfl, rfl, rfl, rfl, rfl, rfl, rfl, rfl, rfl, rfl, rfl, rfl, rfl, rfl, rfl, -⟩ := hf
      show wpList _ _ _ [_] _ _
      refine wpList_frame (by simp [Act.put]; rfl) ?_
      have hBC := HB4.out.below hb
      have rC := ownsRow_below rown hb
      have c0 := (hb.cell (p := ⟨g, m.length * 4, none⟩) hg4).trans y0
      have c1 := (hb.cell (p := ⟨g, m.length * 4 + 1, none⟩) hg4).trans y1
      have c2 := (hb.cell (p := ⟨g, m.length * 4 + 2, none⟩) hg4).trans y2
      have c3 := (hb.cell (p := ⟨g, m.length * 4 + 3, none⟩) hg4).trans y3
      have f0 := World.ownsRow.frozenAt rC (m.length * 4)
      have f1 := World.ownsRow.frozenAt rC (m.length * 4 + 1)
      have f2 := World.ownsRow.frozenAt rC (m.length * 4 + 2)
      have f3 := World.ownsRow.frozenAt rC (m.length * 4 + 3)
      have HL := Lib.hid (BAtU.last (x := e.2) rfl hBC hey2)
      clear hBC rC hb y0 y1 y2 y3 q0 b0 b1 b2 b3
      go_wp2
      exact bodyPost_ret (v := .tuple #[]) (by simp [results, Try.results187, go_sem]) rfl ⟨rfl, by rw [HADD.out]; exact HL.out⟩
    · have HADD : Hid (addM (m ++ [y]) e = (m ++ [y]) ++ [e]) := by simp [Hid, addM_snoc, he]
      have hz : (cmpKU y.1 e.1 == 0) = false := by
        rw [beq_eq_false_iff_ne]
        exact fun h => he (cmpKU_zero.1 h)
      clear h hx hr hw hml hyw he
      go_enter Try.func187, Try.ntmps187
      go_wp2_with fail
      refine abs_world (fun W => BAtU w0 W (some ⟨g, 0, none⟩) c (m ++ [y]) css ∧ Blk W w.heap.size 102 #[.slice RA e.1.1.length rc, .int .i64 e.1.2.1, .int .i64 e.1.2.2, .int .i64 e.2]) ⟨H.out.below (bal (RowKit.Below.refl _ _) _), Blk.newAt rfl⟩ ?_
      rintro W ⟨hBW, hkW⟩
      clear H q0
      have hrW := hBW.row
      rw [HN.out] at hrW
      obtain ⟨RY, ry, hey, y0, y1, y2, y3, hym, hyrow⟩ := snocAtU hrW hBW.rd
      have hqW := hBW.bk.one
      rw [HN.out] at hqW
      have r0 := cgrow hqW
      have r1 := cgrow y0
      have r2 := cgrow y1
      have r21 := cgrow y2
      have r22 := cgrow y3
      have r3 := cgrow (hkW.cell 0)
      have r4 := cgrow (hkW.cell 1)
      have r5 := cgrow (hkW.cell 2)
      have r6 := cgrow (hkW.cell 3)
      simp at r3 r4 r5 r6
      obtain ⟨RA2, rc2, hcs2, hem, herow⟩ := HX.out.form
      injection hcs2 with hc1 hc2
      injection hc1 with hc3 hc4 hc5
      subst hc3
      subst hc5
      have hcon := fun W' (hW : RowKit.Below W.heap.size W W') => compare_u RY RA ry rc y e W' ((hyrow.below hBW.bel).below hW) ((herow.below hBW.bel).below hW) (by omega) (by omega)
      refine wp_region_quiet_below (by kernel_rfl) (by kernel_rfl) ?_
      repeat (go_big_quiet_step (exact Calls.regrown_of (hcon _ (below_regrown _ _ _))))
      refine wpQuiet_nil ?_
      intro wq hwq
      obtain ⟨⟨dq, osq⟩, rfl⟩ := hwq
      have hbq := below_regrown W dq osq
      generalize grow (redrawn W dq) osq = w4 at hbq
      have hB4 := hBW.below hbq
      have hk4 := hkW.below hbq
      clear r0 r1 r2 r21 r22 r3 r4 r5 r6 hcon hqW y0 y1 y2 y3 hrW hbq
      have q0 := hB4.bk.one
      have b0 := hk4.cell 0
      have b1 := hk4.cell 1
      have b2 := hk4.cell 2
      have b3 := hk4.cell 3
      have rown := hB4.row
      rw [HN.out] at q0 rown
      simp at b0 b1 b2 b3
      have f0 := hB4.bk.frozen 0
      have hlt4 := hB4.bk.lt
      have hbx := hk4.lt
      have hg4 := (row_lt rown g rfl).2
      have HB4 := Lib.hid hB4
      clear hBW hkW hk4 hB4 hey
      have fa : ∀ o : Obj, (w4.alloc o).frozen? ⟨w0.heap.size, 0, none⟩ = false := fun o => ((bal (RowKit.Below.refl w4.heap.size w4) o).frozen (p := ⟨w0.heap.size, 0, none⟩) hlt4).trans f0
      have ca : ∀ o : Obj, (w4.alloc o).cell? ⟨w0.heap.size, 0, none⟩ = some (.slice (some ⟨g, 0, none⟩) (m.length + 1) c) := fun o => ((bal (RowKit.Below.refl w4.heap.size w4) o).cell (p := ⟨w0.heap.size, 0, none⟩) hlt4).trans q0
      go_wp2_with fail
      go_region_law ((first
        | (refine step_append_lies _ (by rfl) _ _ _ (by rfl) (w0.heap.size + 1) 102 i0 _ 4 48 Try.underlying55 hi hz0 hz1 hz2 rfl (by omega) (.slice (some ⟨g, 0, none⟩) (m.length + 1) c) (m.length + 1) css.flatten (by rfl) ((rown.alloc _).drew) ⟨w4.heap.size, 0, none⟩ 1 1 [.slice RA e.1.1.length rc, .int .i64 e.1.2.1, .int .i64 e.1.2.2, .int .i64 e.2] (by rfl) (by rfl) (World.news_of_block (cs := #[.slice RA e.1.1.length rc, .int .i64 e.1.2.1, .int .i64 e.1.2.2, .int .i64 e.2]) (t := 102) (fr := (0, 0)) (heap_alloc_new w4 _)) (by simp [Value.oneCell']) (by omega) (by unfold maxLen; omega) (by omega) (by simp; omega) (w4.heap.size + 1) (by simp) ?_; intro gg cap w1 hown1 hgrow hat hlt'; have z0 := hgrow.cell_far ⟨w0.heap.size, 0, none⟩ (by simp; omega) (Ne.symm (ne1 (m.length + 1))); have z3 := hgrow.frozen_far ⟨w0.heap.size, 0, none⟩ (by simp; omega) (Ne.symm (ne1 (m.length + 1))))))
      all_goals go_wp2
      all_goals go_end0
      all_goals exact ⟨rfl, by rw [HADD.out]; exact HB4.out.push HX.out HN.out hown1 hgrow⟩
end Go.Proofs.Ytjlpkfcdkmcjnaa
