/- HELPER, no statement of the seat: CheckPath of both sides. -/
import Derived.Test.YtdaikdenpabfgaaCkp
namespace Go.Proofs.Ytdaikdenpabfgaa
open Go.RowKit Go.Sort Go.Shelf
set_option linter.unusedSimpArgs false
set_option linter.unusedVariables false

theorem relC_expl : ∀ {l : List Nat}, l.length = 20 → ∃ a0 a1 a2 a3 a4 a5 a6 a7 a8 a9 a10 a11 a12 a13 a14 a15 a16 a17 a18 a19 : Nat, relC l = #[.int .u32 ((a0 : Nat) : Int), .int .u32 ((a1 : Nat) : Int), .int .u32 ((a2 : Nat) : Int), .int .u32 ((a3 : Nat) : Int), .int .u32 ((a4 : Nat) : Int), .int .u32 ((a5 : Nat) : Int), .int .u32 ((a6 : Nat) : Int), .int .u32 ((a7 : Nat) : Int), .int .u32 ((a8 : Nat) : Int), .int .u32 ((a9 : Nat) : Int), .int .u32 ((a10 : Nat) : Int), .int .u32 ((a11 : Nat) : Int), .int .u32 ((a12 : Nat) : Int), .int .u32 ((a13 : Nat) : Int), .int .u32 ((a14 : Nat) : Int), .int .u32 ((a15 : Nat) : Int), .int .u32 ((a16 : Nat) : Int), .int .u32 ((a17 : Nat) : Int), .int .u32 ((a18 : Nat) : Int), .int .u32 ((a19 : Nat) : Int)]
  | [a0, a1, a2, a3, a4, a5, a6, a7, a8, a9, a10, a11, a12, a13, a14, a15, a16, a17, a18, a19], _ => ⟨a0, a1, a2, a3, a4, a5, a6, a7, a8, a9, a10, a11, a12, a13, a14, a15, a16, a17, a18, a19, rfl⟩
theorem IntsAt.open2 {w : World} {A : Option Addr} {p : List Int} (h : IntsAt w A p) (hn : 0 < p.length) : ∃ b off, A = some ⟨b, off, none⟩ := by
  obtain ⟨b, off, e, -⟩ := h hn
  exact ⟨b, off, e⟩
set_option maxHeartbeats 3200000 in
theorem isPath_w (B : Nat) (r : List Nat) (A : Option Addr) (p : List Int) (d : Nat) (w : World) (hB : Blk w B 79 (relC r)) (hr : OkR r) (hx : IntsAt w A p) (hd : p.length ≤ d) (hn : p.length ≤ 4194304) :
    Calls Try.prog 84 #[.pointer (some ⟨B, 0, none⟩), .slice A p.length d] w fun e w' => e = .returned (.bool (pathB r p)) ∧ Below w.heap.size w w' := by
  by_cases h2 : 2 ≤ p.length
  · by_cases h60 : p.length ≤ 60
    · have hl2 : ¬ ((p.length : Int) < 2) := by omega
      have hl60 : ¬ ((60 : Int) < p.length) := by omega
      have HT : Hid (pathB r p = stepsB r p) := by simp [Hid, pathB, h2, h60]
      have hno : ∀ k, k < p.length - 1 → hasB r (gi p k) (gi p (k + 1)) = false → Hid (stepsB r p = false) := fun k hk h => allTo_bad hk h
      obtain ⟨b, off, rfl⟩ := hx.open2 (by omega)
      have hd1 : ¬ d = 1 := by omega
      have h1n : (1 : Int) ≤ p.length := by omega
      have HX := Lib.hid hx
      have HB := Lib.hid hB
      have H2 := Lib.hid h2
      have HD := Lib.hid hd
      clear hx hB h2 h60 hd
      go_enter Try.func84, Try.ntmps84
      go_wp2
      go_loopw [5, 6, 18] (fun _ _ i wr => ∃ k : Nat, k ≤ p.length - 1 ∧ i = .int .i64 k ∧ Hid (allTo (fun k => hasB r (gi p k) (gi p (k + 1))) k = true) ∧ Below w.heap.size w wr) (fun _ _ i _ => p.length - 1 - (intOf i).toNat)
      case atStart => exact ⟨0, by omega, rfl, rfl, Below.refl _ _⟩
      case round =>
        obtain ⟨k, hk, rfl, HS, hbel⟩ := hrel
        by_cases hlt : k < p.length - 1
        · have hk1 := IntsAt.cellG HX.out (k := k) (by omega)
          have hk2 := IntsAt.cellG HX.out (k := k + 1) (by omega)
          have q0 := (hbel.cell (p := ⟨b, off + k, none⟩) hk1.1).trans hk1.2
          have q1 := (hbel.cell (p := ⟨b, off + (k + 1), none⟩) hk1.1).trans hk2.2
          rw [show off + (k + 1) = off + 1 + k by omega] at q1
          have hlt1 : (k : Int) < ((p.length - 1 : Nat) : Int) := by omega
          have hlt2 : (k : Int) < p.length := by omega
          have hcon := hasEdge_w B r (gi p k) (gi p (k + 1)) wr (HB.out.below hbel) hr
          have hnk := hno k hlt
          have hyk : hasB r (gi p k) (gi p (k + 1)) = true → Hid (allTo (fun k => hasB r (gi p k) (gi p (k + 1))) (k + 1) = true) := fun h => allTo_step HS.out h
          clear hk1 hk2
          generalize gi p k = u at *
          generalize gi p (k + 1) = v at *
          cases hv : hasB r u v
          · have HN := hnk hv
            rw [hv] at hcon
            clear hnk hyk hv hno
            go_wp2_with fail
            refine hcon.mono ?_
            rintro e w2 ⟨rfl, b2⟩
            have hb2 := btr hbel b2
            clear hcon q0 q1
            go_wp2
            go_ret
            exact ⟨ret_bool (by rw [HT.out, HN.out]), hb2⟩
          · have HN := hyk hv
            rw [hv] at hcon
            clear hnk hyk hv
            go_wp2_with fail
            refine hcon.mono ?_
            rintro e w2 ⟨rfl, b2⟩
            have hb2 := btr hbel b2
            clear hcon q0 q1
            go_wp2
            go_roundw
            case rel => exact ⟨k + 1, by omega, by go_num, HN, hb2⟩
            case measure => simp [intOf]; omega
        · obtain rfl : k = p.length - 1 := by omega
          have HN : Hid (pathB r p = true) := by rw [Hid, HT.out]; exact HS.out
          clear HS
          go_wp2
          go_ret
          exact ⟨ret_bool HN.out.symm, hbel⟩
    · have hl2 : ¬ ((p.length : Int) < 2) := by omega
      have hl60 : (60 : Int) < p.length := by omega
      have HT : Hid (pathB r p = false) := by simp [Hid, pathB, h60]
      clear hx hB
      go_enter Try.func84, Try.ntmps84
      go_wp2
      go_ret
      exact ⟨ret_bool HT.out.symm, Below.refl _ _⟩
  · have hl2 : (p.length : Int) < 2 := by omega
    have HT : Hid (pathB r p = false) := by simp [Hid, pathB, h2]
    clear hx hB
    go_enter Try.func84, Try.ntmps84
    go_wp2
    go_ret
    exact ⟨ret_bool HT.out.symm, Below.refl _ _⟩
theorem wpList_buildK {P0 : Program} {ops : Array Oper} {rest : List Oper} {o : Oper} {a : Act} {w : World} {Q : Exit → Act → World → Prop} (hg : o.guard = none) (t : TypeId) (parts : Array (Nat × Operand)) (ho : o.op = .build t parts) (cells : Array Value)
    (hb : P0.built t (parts.map fun (i, x) => (i, a.eval x)).toList = some cells) (h : wpList P0 ops Q rest (a.put o.dst (.agg cells)) w) : wpList P0 ops Q (o :: rest) a w :=
  wpList_build hg t parts ho (by rw [hb]; rfl) (by rw [hb]; exact h)
theorem infoCk : (Try.prog.info? 79).map (·.size) = some 20 := by kernel_rfl
theorem built_ck {r : List Nat} (h : r.length = 20) : Try.prog.built 79 [(0, .agg (relC r))] = some (relC r) := by
  obtain ⟨a0, a1, a2, a3, a4, a5, a6, a7, a8, a9, a10, a11, a12, a13, a14, a15, a16, a17, a18, a19, hex⟩ := relC_expl h
  rw [hex]
  kernel_rfl
set_option maxRecDepth 100000 in
set_option maxHeartbeats 3200000 in
theorem CheckPath_i (A : Option Addr) (c : Nat) (es : List Ent) (x y : Int) (P : Option Addr) (d : Nat) (p : List Int) (w : World) (hx : EntsAt w A es) (hp : IntsAt w P p) (hn : es.length ≤ 4194304) (hr : rowsIn es 4194304) (hm : p.length ≤ 4194304) (hd : p.length ≤ d) :
    Calls Try.prog 41 #[.slice A es.length c, .int .i64 x, .int .i64 y, .slice P p.length d] w fun e w' => e = .returned (.bool (CkF es x y p)) ∧ Below w.heap.size w w' := by
  have hv := ValidEdges_i A c es w hx hn hr
  cases h1 : edgB es
  · have HT : Hid (CkF es x y p = false) := by simp [Hid, CkF, h1]
    rw [h1] at hv
    clear h1 hx hp
    go_enter Try.func41, Try.ntmps41
    go_wp2_with fail
    refine hv.mono ?_
    rintro e w1 ⟨rfl, b1⟩
    clear hv
    go_wp2
    go_ret
    exact ⟨ret_bool HT.out.symm, b1⟩
  · have hro := relOf_ok h1
    have HT : Hid (CkF es x y p = (pathB (relOf es) p && (decide (gi p 0 = x) && decide (gi p (p.length - 1) = y)))) := by simp [Hid, CkF, h1]
    have hrl := fun W (hb : Below w.heap.size w W) => relationOf_i A c es W (hx.below entR hb) h1
    rw [h1] at hv
    have HP := Lib.hid hp
    clear h1 hx hp
    generalize relOf es = r at *
    have hbl := built_ck hro.len
    go_enter Try.func41, Try.ntmps41
    go_wp2_with fail
    refine hv.mono ?_
    rintro e w1 ⟨rfl, b1⟩
    clear hv
    go_wp2_with fail
    refine (hrl _ b1).mono ?_
    rintro e w2 ⟨rfl, b2⟩
    have b2 := btr b1 b2
    clear hrl b1
    go_wp2_with (first | refine wpList_buildK rfl 79 _ rfl (relC r) (Eq.trans (by kernel_rfl) hbl) ?_ | refine wpList_store_row rfl 79 _ _ rfl w2.heap.size (relC r) rfl rfl 79 (relC zeroR) (Blk.newAt rfl) (by rw [relC_size, hro.len]; exact infoCk) (by rw [relC_size, relC_size, zeroR_ok.len, hro.len]) (relC_one _) ?_)
    have b3 := brow (bal b2 (.cells (relC zeroR) 79)) b2.size (relC r)
    have hcon := isPath_w w2.heap.size r P p d ((w2.alloc (.cells (relC zeroR) 79)).setRow w2.heap.size (relC r)) ((Blk.newAt rfl).row _) hro (HP.out.below b3) hd hm
    clear hbl
    cases hpb : pathB r p
    · have HN : Hid (CkF es x y p = false) := by rw [Hid, HT.out, hpb]; rfl
      rw [hpb] at hcon
      clear hpb HT
      refine hcon.mono ?_
      rintro e w5 ⟨rfl, b5⟩
      have b5 := btr b3 b5
      clear hcon b3
      go_wp2
      go_ret
      exact ⟨ret_bool HN.out.symm, b5⟩
    have h2 : 2 ≤ p.length := by
      simp only [pathB, Bool.and_eq_true, decide_eq_true_eq] at hpb
      exact hpb.1
    rw [hpb] at hcon HT
    obtain ⟨b, off, rfl⟩ := HP.out.open2 (by omega)
    have hk1 := IntsAt.cellG HP.out (k := 0) (by omega)
    have hk2 := IntsAt.cellG HP.out (k := p.length - 1) (by omega)
    refine hcon.mono ?_
    rintro e w5 ⟨rfl, b5⟩
    have b5 := btr b3 b5
    have q0 := (b5.cell (p := ⟨b, off + 0, none⟩) hk1.1).trans hk1.2
    have q1 := (b5.cell (p := ⟨b, off + (p.length - 1), none⟩) hk1.1).trans hk2.2
    have hi0 : (0 : Int) < p.length := by omega
    have hi1 : (0 : Int) ≤ (p.length : Int) - 1 := by omega
    have hi2 : (p.length : Int) - 1 < p.length := by omega
    have hi3 : ((p.length : Int) - 1).toNat = p.length - 1 := by omega
    clear hcon b3 hpb hk1 hk2 h2
    generalize gi p 0 = u at *
    generalize gi p (p.length - 1) = v at *
    rw [Nat.add_zero] at q0
    by_cases hu : u = x
    · have he : (u == x) = true := by simpa using hu
      by_cases hv : v = y
      · have he2 : (v == y) = true := by simpa using hv
        have HN : Hid (CkF es x y p = true) := by rw [Hid, HT.out]; simp [hu, hv]
        clear HT hu hv
        go_wp2
        go_ret
        exact ⟨ret_bool HN.out.symm, b5⟩
      · have he2 : (v == y) = false := by simpa using hv
        have HN : Hid (CkF es x y p = false) := by rw [Hid, HT.out]; simp [hu, hv]
        clear HT hu hv
        go_wp2
        go_ret
        exact ⟨ret_bool HN.out.symm, b5⟩
    · have he : (u == x) = false := by simpa using hu
      have HN : Hid (CkF es x y p = false) := by rw [Hid, HT.out]; simp [hu]
      clear HT hu
      go_wp2
      go_ret
      exact ⟨ret_bool HN.out.symm, b5⟩
end Go.Proofs.Ytdaikdenpabfgaa
