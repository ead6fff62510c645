/-
  RqL: Rows and commits that came in, opened with the second form's own bound; the listed variables. (Printed by gen_rql.py.)
-/
import Derived.Test.YthfcjfhaoabdeaaGreatDoorRz61
import Derived.Test.YthfcjfhaoabdeaaGreatDoorTie
import Derived.Test.YthfcjfhaoabdeaaGreatDoorCards
import Derived.ProofKit
import Derived.LaidMore
import Derived.LaidHandle
import Derived.Lib.LaidTab
import Derived.Lib.AtoiErrMem
import Derived.Stop.Joined
import Derived.Stop.LaidErr
import Derived.OpenShut
set_option linter.unusedVariables false
set_option linter.unusedSimpArgs false
namespace Go.Proofs.YthfcjfhaoabdeaaGreatDoor
open Go.RowKit Go.ChangeShapes Go.WideShapes Go.ChangeAt

theorem bulk_one {H : Type} (d : DataW H) : 1 ≤ Rows.uptoBulk d := by
  cases d with
  | lit l => cases l <;> simp [Rows.uptoBulk]
  | nil => simp [Rows.uptoBulk]
  | ptr d => simp [Rows.uptoBulk]
  | slice elems spare => simp [Rows.uptoBulk]
  | agg parts => simp [Rows.uptoBulk]
  | iface t d => simp [Rows.uptoBulk]
  | map entries => simp [Rows.uptoBulk]
  | held h => simp [Rows.uptoBulk]
theorem bulk_length {H : Type} : ∀ (l : List (DataW H)), l.length ≤ Rows.uptoBulkAll l
  | [] => by simp [Rows.uptoBulkAll]
  | x :: r => by
    have h1 := bulk_one x
    have h2 := bulk_length r
    simp only [Rows.uptoBulkAll, List.length_cons]
    omega
theorem bulk_mem {H : Type} : ∀ {l : List (DataW H)} {d : DataW H}, d ∈ l → Rows.uptoBulk d ≤ Rows.uptoBulkAll l
  | x :: r, d, h => by
    rcases List.mem_cons.1 h with rfl | h
    · simp only [Rows.uptoBulkAll]; omega
    · have := bulk_mem h
      simp only [Rows.uptoBulkAll]; omega

/-- Elements of more than one place each: so they are fewer. -/
theorem bulk_three {H : Type} : ∀ (l : List (DataW H)), (∀ d ∈ l, 2 ≤ Rows.uptoBulk d) → 2 * l.length ≤ Rows.uptoBulkAll l
  | [], _ => by simp [Rows.uptoBulkAll]
  | x :: r, h => by
    have h1 := h x (List.mem_cons_self ..)
    have h2 := bulk_three r (fun d hd => h d (List.mem_cons_of_mem _ hd))
    simp only [Rows.uptoBulkAll, List.length_cons]
    omega
theorem bulk_append {H : Type} : ∀ (l m : List (DataW H)), Rows.uptoBulkAll (l ++ m) = Rows.uptoBulkAll l + Rows.uptoBulkAll m
  | [], m => by simp [Rows.uptoBulkAll]
  | x :: r, m => by
    have := bulk_append r m
    simp only [List.cons_append, Rows.uptoBulkAll]
    omega
/-- As open_seq; an element's reading may use the bulk's bound. -/
theorem open_seqB {α H : Type} {enc : TypeId × Value → H} {P : Program} {W : World} {t e : TypeId} {a : Option Addr} {len cap k : Nat} {d : DataW H} {p : List MemPlace} (f : α → List Value) (ok : α → Prop) (ms : α → Nat)
    (ht : P.underlying t = some (.slice e)) (hk : P.cellsOf e = k) (hk0 : 0 < k) (hf : ∀ x, ok x → (f x).length = k)
    (one : ∀ (m : Nat) (cs : List Value) (y : DataW H × List MemPlace), cs.length = k → DataW.trod enc P W 0 (fun _ => true) true m e cs = some y → Rows.uptoBulk y.1 ≤ 1048576 → ∃ x, ok x ∧ cs = f x ∧ ms x ≤ Rows.uptoBulk y.1)
    (two : ∀ (m : Nat) (cs : List Value) (y : DataW H × List MemPlace), cs.length = k → DataW.trod enc P W 0 (fun _ => true) true m e cs = some y → 2 ≤ Rows.uptoBulk y.1)
    (h : DataW.Trod enc P W 0 (fun _ => true) true t (.slice a len cap) d p) (hw : Rows.uptoBulk d ≤ 1048576) : ∃ xs : List α, (∀ x ∈ xs, ok x) ∧ Seq k f W a len cap xs ∧ (a = none → cap = 0) ∧ len ≤ 1000000 ∧ (xs.map ms).sum ≤ Rows.uptoBulk d ∧ len ≤ Rows.uptoBulk d := by
  obtain ⟨fuel, hf2⟩ := h
  rcases DataW.trod_slice ht hf2 with ⟨hcs, hdn⟩ | ⟨x, l, c, elems, rest, n, _, hcs, hds, _, hl, hm, hlen, hel, _, _⟩
  · simp [Value.cells] at hcs
    obtain ⟨rfl, rfl, rfl⟩ := hcs
    exact ⟨[], (fun o ho => by cases ho), ⟨rfl, Nat.le_refl _, Nat.zero_le _, fun h => absurd h (by omega)⟩, fun _ => rfl, Nat.zero_le _, Nat.zero_le _, Nat.zero_le _⟩
  · simp [Value.cells] at hcs
    obtain ⟨rfl, rfl, rfl⟩ := hcs
    have hd1 : d = .slice (elems.map (·.1)) (rest.map (·.1)) := (Prod.mk.inj hds).1
    have each : ∀ i, i < len → ∃ o : α, ok o ∧ W.cells? 0 (x.add (i * k)) k = some (f o) ∧ ∀ y, elems[i]? = some y → ms o ≤ Rows.uptoBulk y.1 := fun i hi => by
      have h1 := hel i hi
      obtain ⟨y, hy⟩ := some_at hlen hi
      rw [hy, hk, Option.bind_eq_some_iff] at h1
      obtain ⟨cs, hc, ht2⟩ := h1
      obtain ⟨o, ho, rfl, hms⟩ := one _ _ _ (World.cells?_some hc).2.1 ht2 (by
        have h3 := bulk_mem (d := y.1) (l := elems.map (·.1)) (List.mem_map.2 ⟨y, List.mem_of_getElem? hy, rfl⟩)
        rw [hd1] at hw
        simp only [Rows.uptoBulk] at hw
        omega)
      exact ⟨o, ho, hc, fun y' hy' => by rw [hy] at hy'; rw [← Option.some.inj hy']; exact hms⟩
    have hall : ∀ n, n ≤ len → ∃ os : List α, os.length = n ∧ (∀ o ∈ os, ok o) ∧ (∀ (i : Nat) (o : α), os[i]? = some o → W.cells? 0 (x.add (i * k)) k = some (f o)) ∧ (os.map ms).sum ≤ Rows.uptoBulkAll ((elems.take n).map (·.1)) := fun n => by
      induction n with
      | zero => exact fun _ => ⟨[], rfl, (fun o ho => by cases ho), (fun i o hi => by cases hi), Nat.zero_le _⟩
      | succ n ih =>
        intro hn
        obtain ⟨os, e1, e2, e3, e5⟩ := ih (by omega)
        obtain ⟨o, ho, hc, hmo⟩ := each n (by omega)
        refine ⟨os ++ [o], by simp [e1], fun o' ho' => ?_, fun i o' hi => ?_, ?_⟩
        · rcases List.mem_append.1 ho' with h | h
          · exact e2 o' h
          · simp at h; subst h; exact ho
        · by_cases e : i < os.length
          · rw [List.getElem?_append_left e] at hi
            exact e3 i o' hi
          · rw [List.getElem?_append_right (by omega)] at hi
            have e4 : i - os.length = 0 := by
              rcases Nat.eq_zero_or_pos (i - os.length) with h | h
              · exact h
              · rw [List.getElem?_eq_none (by simp; omega)] at hi; cases hi
            rw [e4] at hi
            cases hi
            obtain rfl : i = n := by omega
            exact hc
        · obtain ⟨y, hy⟩ := some_at hlen (show n < len by omega)
          rw [List.take_add_one, hy]
          simp only [List.map_append, List.sum_append, bulk_append, Option.toList, List.map_cons, List.map_nil, List.sum_cons, List.sum_nil, Rows.uptoBulkAll]
          have := hmo y hy
          omega
    obtain ⟨os, e1, e2, e3, e5⟩ := hall len (Nat.le_refl _)
    refine ⟨os, e2, ⟨e1, hl, hm, fun h0 => ?_⟩, (fun h => by cases h), by
      have h3 := bulk_three (elems.map (·.1)) (fun d hd => by
        obtain ⟨y, hy, rfl⟩ := List.mem_map.1 hd
        obtain ⟨i, hi, hyi⟩ := List.getElem_of_mem hy
        have h1 := hel i (by omega)
        rw [List.getElem?_eq_getElem hi, hyi, hk, Option.bind_eq_some_iff] at h1
        obtain ⟨cs, hc, ht2⟩ := h1
        exact two _ _ _ (World.cells?_some hc).2.1 ht2)
      rw [hd1] at hw
      simp only [Rows.uptoBulk] at hw
      simp only [List.length_map] at h3
      omega, by
      rw [List.take_of_length_le (by omega)] at e5
      rw [hd1]
      simp only [Rows.uptoBulk]
      omega, by
      have h3 := bulk_length (elems.map (·.1))
      simp only [List.length_map] at h3
      rw [hd1]
      simp only [Rows.uptoBulk]
      omega⟩
    obtain ⟨o0, ho0⟩ := some_at e1 h0
    have hc0 := (World.cells?_some (e3 0 o0 ho0)).2.2 0 hk0
    obtain ⟨b, off, sp⟩ := x
    have hok0 := hf o0 (e2 o0 (List.mem_of_getElem? ho0))
    obtain ⟨u0, hu0⟩ := some_at hok0 hk0
    have hc1 : W.cell? (((⟨b, off, sp⟩ : Addr).add (0 * k)).add 0) = some u0 := hc0.trans hu0
    have hsp : sp = none := by simpa [Addr.add] using World.cell?_spot hc1
    subst hsp
    refine ⟨b, off, rfl, ?_, fun i o hi j u hu => ?_⟩
    · rw [addr_plus, addr_plus] at hc1
      exact World.block_lt_of_cell? W _ hc1
    · have hj : j < k := by
        have h1 := (List.getElem?_eq_some_iff.1 hu).1
        have h2 := hf o (e2 o (List.mem_of_getElem? hi))
        omega
      have := (World.cells?_some (e3 i o hi)).2.2 j hj
      rw [addr_plus, addr_plus] at this
      rw [this]
      exact hu

theorem cI64 : Tryz.prog.cellsOf 2 = 1 := by kernel_rfl
theorem cSt : Tryz.prog.cellsOf 9 = 1 := by kernel_rfl
theorem cRow : Tryz.prog.cellsOf 33 = 3 := by kernel_rfl
theorem cWrite : Tryz.prog.cellsOf 37 = 3 := by kernel_rfl
theorem cWs : Tryz.prog.cellsOf 25 = 1 := by kernel_rfl
theorem cBo : Tryz.prog.cellsOf 4 = 1 := by kernel_rfl
theorem cCommit : Tryz.prog.cellsOf 27 = 2 := by kernel_rfl
section
variable {H : Type} {enc : TypeId × Value → H} {W : World} {d : DataW H} {p : List MemPlace} {a : Option Addr} {len cap : Nat}
theorem len_str (k : ByteArray) : k.data.toList.length = k.size := by rw [Array.length_toList]; rfl
set_option maxRecDepth 100000 in
theorem row_of {n : Nat} {cs : List Value} {y : DataW H × List MemPlace} (hl : cs.length = 3) (ht : DataW.trod enc Tryz.prog W 0 (fun _ => true) true n 33 cs = some y) (hb : Rows.uptoBulk y.1 ≤ 1048576) : ∃ o : ML.Ro, o.ok ∧ cs = o.cl ∧ 0 ≤ Rows.uptoBulk y.1 := by
  obtain ⟨xs, m, _, hy, _, hxl, hfs⟩ := DataW.trod_struct Tryz.underlying33 ht
  have hx3 : xs.length = 3 := hxl
  match cs, hl, xs, hx3 with
  | [c0, c1, c2], _, [y0, y1, y2], _ =>
    have h0 := (field_at hfs 0 9 0 _ cSt rfl)
    have h1 := (field_at hfs 1 9 1 _ cSt rfl)
    have h2 := (field_at hfs 2 2 2 _ cI64 rfl)
    simp only [List.drop, List.take] at h0 h1 h2
    obtain ⟨k0, q0, r0, _⟩ := DataW.trod_string Tryz.underlying9 h0
    obtain ⟨k1, q1, r1, _⟩ := DataW.trod_string Tryz.underlying9 h1
    obtain ⟨k2, q2, r2, s2⟩ := DataW.trod_int Tryz.underlying2 h2
    simp only [List.cons.injEq, and_true] at q0 q1 q2
    subst q0 q1 q2
    subst hy r0 r1 r2
    simp only [List.map_cons, List.map_nil, Rows.uptoBulk, Rows.uptoBulkAll, len_str] at hb
    exact ⟨⟨k0, k1, k2⟩, ⟨show k0.size ≤ 1048576 by omega, show k1.size ≤ 1048576 by omega, bounds_i64 s2⟩, rfl, Nat.zero_le _⟩

theorem open_rowsB (h : DataW.Trod enc Tryz.prog W 0 (fun _ => true) true 22 (.slice a len cap) d p) (hb : Rows.uptoBulk d ≤ 1048576) : ∃ xs : List ML.Ro, (∀ x ∈ xs, x.ok) ∧ ML.RS W a len cap xs ∧ (a = none → cap = 0) ∧ len ≤ 1000000 := by
  obtain ⟨xs, h1, h2, h3, h4, _⟩ := open_seqB ML.Ro.cl ML.Ro.ok (fun _ => 0) Tryz.underlying22 cRow (by decide) (fun _ _ => rfl) (fun m cs y hl hy hb => row_of hl hy hb) (fun m cs y hl hy => by
    obtain ⟨xs, m, _, hy, _, hxl, hfs⟩ := DataW.trod_struct Tryz.underlying33 hy
    have hx3 : xs.length = 3 := hxl
    subst hy
    have := bulk_length (xs.map (·.1))
    simp only [List.length_map] at this
    simp only [Rows.uptoBulk]
    omega) h hb
  exact ⟨xs, h1, h2, h3, h4⟩
set_option maxRecDepth 100000 in
theorem writeB_of {n : Nat} {cs : List Value} {y : DataW H × List MemPlace} (hl : cs.length = 3) (ht : DataW.trod enc Tryz.prog W 0 (fun _ => true) true n 37 cs = some y) (hb : Rows.uptoBulk y.1 ≤ 1048576) : ∃ o : Wr, o.ok ∧ cs = o.cl ∧ 0 ≤ Rows.uptoBulk y.1 := by
  obtain ⟨xs, m, _, hy, _, hxl, hfs⟩ := DataW.trod_struct Tryz.underlying37 ht
  have hx3 : xs.length = 3 := hxl
  match cs, hl, xs, hx3 with
  | [c0, c1, c2], _, [y0, y1, y2], _ =>
    have h0 := (field_at hfs 0 9 0 _ cSt rfl)
    have h1 := (field_at hfs 1 9 1 _ cSt rfl)
    have h2 := (field_at hfs 2 4 2 _ cBo rfl)
    simp only [List.drop, List.take] at h0 h1 h2
    obtain ⟨k0, q0, r0, _⟩ := DataW.trod_string Tryz.underlying9 h0
    obtain ⟨k1, q1, r1, _⟩ := DataW.trod_string Tryz.underlying9 h1
    obtain ⟨k2, q2, r2⟩ := DataW.trod_bool Tryz.underlying4 h2
    simp only [List.cons.injEq, and_true] at q0 q1 q2
    subst q0 q1 q2
    subst hy r0 r1 r2
    simp only [List.map_cons, List.map_nil, Rows.uptoBulk, Rows.uptoBulkAll, len_str] at hb
    exact ⟨⟨k0, k1, k2⟩, ⟨show k0.size ≤ 1048576 by omega, show k1.size ≤ 1048576 by omega⟩, rfl, Nat.zero_le _⟩
/-- A commit that came in. -/
def Kc.ok (W : World) (c : Kc) : Prop := WS W c.ao c.len c.cap c.ws ∧ (c.ao = none → c.cap = 0) ∧ ∀ x ∈ c.ws, x.ok
set_option maxRecDepth 100000 in
theorem comB_of {n : Nat} {cs : List Value} {y : DataW H × List MemPlace} (hl : cs.length = 2) (ht : DataW.trod enc Tryz.prog W 0 (fun _ => true) true n 27 cs = some y) (hb : Rows.uptoBulk y.1 ≤ 1048576) : ∃ o : Kc, o.ok W ∧ cs = o.cl ∧ o.ws.length ≤ Rows.uptoBulk y.1 := by
  obtain ⟨xs, m, _, hy, _, hxl, hfs⟩ := DataW.trod_struct Tryz.underlying27 ht
  have hx3 : xs.length = 2 := hxl
  match cs, hl, xs, hx3 with
  | [c0, c1], _, [y0, y1], _ =>
    have h0 := (field_at hfs 0 2 0 _ cI64 rfl)
    have h1 := (field_at hfs 1 25 1 _ cWs rfl)
    simp only [List.drop, List.take] at h0 h1
    obtain ⟨k0, q0, r0, _⟩ := DataW.trod_int Tryz.underlying2 h0
    obtain ⟨a3, l3, c3, q3⟩ : ∃ a l c, c1 = .slice a l c := by
      rcases DataW.trod_slice Tryz.underlying25 h1 with ⟨e, _⟩ | ⟨a, l, c, _, _, _, _, e, _⟩
      · exact ⟨none, 0, 0, by simpa using e⟩
      · exact ⟨some a, l, c, by simpa using e⟩
    subst q3
    simp only [List.cons.injEq, and_true] at q0
    subst q0
    subst hy r0
    simp only [List.map_cons, List.map_nil, Rows.uptoBulk, Rows.uptoBulkAll] at hb
    obtain ⟨ws, hok, hs, hnn, _, _, hwl⟩ := open_seqB (enc := enc) (W := W) Wr.cl Wr.ok (fun _ => 0) Tryz.underlying25 cWrite (by decide) (fun _ _ => rfl) (fun m cs y hl hy hb => writeB_of hl hy hb) (fun m cs y hl hy => by
      obtain ⟨xs, m, _, hy, _, hxl, hfs⟩ := DataW.trod_struct Tryz.underlying37 hy
      have hx3 : xs.length = 3 := hxl
      subst hy
      have := bulk_length (xs.map (·.1))
      simp only [List.length_map] at this
      simp only [Rows.uptoBulk]
      omega) (⟨_, h1⟩ : DataW.Trod enc Tryz.prog W 0 (fun _ => true) true 25 (.slice a3 l3 c3) _ _) (by omega)
    have hl3 : ws.length = l3 := hs.1
    refine ⟨⟨k0, a3, l3, c3, ws⟩, ⟨hs, hnn, hok⟩, rfl, ?_⟩
    simp only [List.map_cons, List.map_nil, Rows.uptoBulk, Rows.uptoBulkAll]
    omega
theorem open_comsB (h : DataW.Trod enc Tryz.prog W 0 (fun _ => true) true 23 (.slice a len cap) d p) (hb : Rows.uptoBulk d ≤ 1048576) : ∃ cs : List Kc, Ins W a len cap cs ∧ ∀ c ∈ cs, c.ao = none → c.cap = 0 := by
  obtain ⟨xs, h1, h2, h3, h4, h5, _⟩ := open_seqB Kc.cl (Kc.ok W) (fun c => c.ws.length) Tryz.underlying23 cCommit (by decide) (fun _ _ => rfl) (fun m cs y hl hy hb => comB_of hl hy hb) (fun m cs y hl hy => by
    obtain ⟨xs, m, _, hy, _, hxl, hfs⟩ := DataW.trod_struct Tryz.underlying27 hy
    have hx3 : xs.length = 2 := hxl
    subst hy
    have := bulk_length (xs.map (·.1))
    simp only [List.length_map] at this
    simp only [Rows.uptoBulk]
    omega) h hb
  exact ⟨xs, ⟨h2, fun c hc => (h1 c hc).1, fun c hc => (h1 c hc).2.2, h4, by unfold cnt; omega⟩, fun c hc => (h1 c hc).2.1⟩
end

/-! The listed variables. -/
def thePlain : List (String × DataW Unit) := [("math/bits.deBruijn32tab", Rows.laid_math_bits_deBruijn32tab), ("math/bits.deBruijn64tab", Rows.laid_math_bits_deBruijn64tab), ("internal/strconv.uint64pow10", Rows.laid_internal_strconv_uint64pow10), ("strconv.ErrRange", Rows.laid_strconv_ErrRange), ("strconv.ErrSyntax", Rows.laid_strconv_ErrSyntax)]
theorem laid_parts {W : World} (h : laidMetH Tryz.prog Rows.reloadReplaysUptoRow.laid W) : laidMet Tryz.prog thePlain W ∧ handlesMet Tryz.prog [("errors.errorType", Rows.laid_errors_errorType)] W := h
theorem gES : Tryz.prog.globalNamed "strconv.ErrSyntax" = some (atoiL_ren.g 15) := by kernel_rfl
theorem gESType : (Tryz.prog.globals[atoiL_ren.g 15]?).map (·.type) = some 51 := by kernel_rfl
theorem cellsES : Tryz.prog.cellsOf 369 = 1 := by kernel_rfl
theorem cells9x : Tryz.prog.cellsOf 9 = 1 := by kernel_rfl
theorem starx : "*" ++ "errors.errorString" = "*errors.errorString" := by decide
theorem rowES (u : TypeId) (h : Tryz.prog.typeName? 3 u = some "*errors.errorString") : u = 367 :=
  typeName_ptr_named (nm := "errors.errorString") (by rw [starx]; kernel_rfl) (by kernel_rfl) (by decide) u (by rw [starx]; exact h)
theorem pow_is : (Rows.laid_internal_strconv_uint64pow10 : DataW Unit) = Lib.tabData .u64 Lib.pow10Tab := by
  simp [Rows.laid_internal_strconv_uint64pow10, Lib.tabData, Lib.pow10Tab, List.range, List.range.loop]
theorem gPT : ∃ g, Tryz.prog.globalNamed "internal/strconv.uint64pow10" = some g ∧ (Tryz.prog.globals[g]?).map (·.type) = some 351 := ⟨(Tryz.prog.globalNamed "internal/strconv.uint64pow10").getD 0, by kernel_rfl, by kernel_rfl⟩
theorem gl_of_laid {W : World} (h : laidMet Tryz.prog thePlain W) : Gl W.heap.size W := by
  unfold thePlain at h
  have h3 := h.tail.tail
  rw [pow_is] at h3
  obtain ⟨g, hg, hgt⟩ := gPT
  have ht := Lib.tabIs_of_head (k := .u64) (t := 351) (e := 146) (n := 20) hg hgt Tryz.underlying351 Tryz.underlying146 (by kernel_rfl) (by kernel_rfl) h3
  obtain ⟨a0, s0, hv0, -, -, -⟩ := laid_sentinel h.tail.tail.tail.tail gES gESType Tryz.underlying51 rowES Tryz.underlying367 Tryz.underlying369 rfl rfl Tryz.underlying9 cellsES cells9x
  have hc : W.cell? ⟨atoiL_ren.g 15, 0, none⟩ = some (.iface 367 (.pointer (some a0))) := by
    have h0 := World.var?_cell gES hv0 0
    simpa using h0
  intro w' hb
  exact ⟨Lib.tabBelow_of_tabIs ht w' hb, _, _, (hb.cell (p := ⟨atoiL_ren.g 15, 0, none⟩) (Lib.lt_of_cell hc)).trans hc⟩
theorem gEt : Tryz.prog.globalNamed "errors.errorType" = some 0 := by kernel_rfl
theorem gRt : (Tryz.prog.cutTypes.find? (·.1 == "internal/reflectlite.rtype")).map (·.2) = some 179 := by kernel_rfl
theorem oneRow : ((List.range Tryz.prog.types.size).filter fun t => Tryz.prog.rowNamed t [101, 114, 114, 111, 114]) = [51] := by kernel_rfl
theorem ee_of_laid {W : World} (h : handlesMet Tryz.prog [("errors.errorType", Rows.laid_errors_errorType)] W) : Ee W := by
  obtain ⟨name, u, ty, e1, e2, e3, e4, e5⟩ := h _ (List.mem_singleton.2 rfl)
  have en : name = [101, 114, 114, 111, 114] := (Option.some.inj e1).symm
  subst en
  obtain rfl := Option.some.inj (gRt.symm.trans e2)
  have hm : ty ∈ (List.range Tryz.prog.types.size).filter fun t => Tryz.prog.rowNamed t [101, 114, 114, 111, 114] := List.mem_filter.2 ⟨List.mem_range.2 e3, e4⟩
  rw [oneRow] at hm
  obtain rfl := List.mem_singleton.1 hm
  have hh : typeHandle Tryz.prog 51 = .pointer (some ⟨7, 51, none⟩) := by kernel_rfl
  rw [hh] at e5
  unfold Ee
  simpa using World.var?_cell gEt e5 0
/-- What the walk asks of the listed variables. -/
def Lai (W : World) : Prop := Gl W.heap.size W ∧ Ee W
theorem lai_of_laid {W : World} (h : laidMetH Tryz.prog Rows.reloadReplaysUptoRow.laid W) : Lai W := ⟨gl_of_laid (laid_parts h).1, ee_of_laid (laid_parts h).2⟩
theorem door_met (os : Os) (args : Array Value) : laidMetH Tryz.prog Rows.reloadReplaysUptoRow.laid ((World.doorLaid Tryz.prog 400 os).forCall (fun _ _ => 0) ⟨#[], args, []⟩).memory :=
  laidMetH_of_parts3 (fuel := 8) (laidMet_of_run' 8 (by kernel_rfl) (by kernel_rfl)) (by kernel_rfl) (by kernel_rfl)
end Go.Proofs.YthfcjfhaoabdeaaGreatDoor
