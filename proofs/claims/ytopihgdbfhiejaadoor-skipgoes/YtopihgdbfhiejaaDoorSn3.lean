/-
  Sn3: Who has put a key in: the law's put. (Printed by gen_sn3.py.)
  Sn4: What is asked of an operation that is done: the law's fits. (Printed by gen_sn3.py.)
-/
import Derived.Test.YtopihgdbfhiejaaDoorSn0
import Derived.BigQuiet
import Derived.Deep.DeepCutAuto
set_option linter.unusedVariables false
set_option linter.unusedSimpArgs false
namespace Go.Proofs.YtopihgdbfhiejaaDoor

section
open Go.RowKit Go.Maps Go.Sort

theorem blw_list {a b : ByteArray} : Blw a b ↔ a.toList < b.toList := by
  unfold Blw bl
  rw [ByteArray.toList_eq, ByteArray.toList_eq]
theorem less_yes {a b : ByteArray} (h : Blw a b) : Op.bytesLess a.toList b.toList = true := by rw [bytesLess_eq]; exact decide_eq_true (blw_list.1 h)
theorem less_no {a b : ByteArray} (h : ¬ Blw a b) : Op.bytesLess a.toList b.toList = false := by rw [bytesLess_eq]; exact decide_eq_false (fun q => h (blw_list.2 q))
theorem same_yes {a b : ByteArray} (h : a = b) : (a.toList == b.toList) = true := by rw [h]; simp
theorem same_no {a b : ByteArray} (h : a ≠ b) : (a.toList == b.toList) = false := by rw [beq_eq_false_iff_ne]; exact fun q => h (toList_inj q)
/-- All are done. -/
structure Ev (s : Sl) (l : List Un) : Prop where
  ti : ∃ now t, Ti s l now t
  ok : s.ok
  all : ∀ u ∈ l, u.fin.isSome = true
  ox : ∀ u ∈ l, u.x.ok
  len : l.length ≤ 40
/-- Who has put a key in. -/
def Pt (l : List Un) (key : ByteArray) (r : Int) : Prop := (∃ (i : Nat) (u : Un), r = (i : Int) ∧ l[i]? = some u ∧ u.o.tw ≠ 0 ∧ u.x.key = key) ∨ (r = -1 ∧ ∀ u ∈ l, u.o.tw ≠ 0 → u.x.key ≠ key)
section
variable {w w0 : World} {lb d : Nat} {K : Nat → Prop} {s : Sl} {l : List Un} {vo : Option Addr} {vc : Nat}
set_option maxRecDepth 100000 in
set_option maxHeartbeats 8000000 in
theorem put_any (E : Ev s l) (h : Hs w w0 lb d 10000000 K s l (.slice vo l.length vc) (.slice none 0 0) []) (key : ByteArray) :
    Calls Tryd.prog 36 #[.slice vo l.length vc, .string key] w0 fun e w' => ∃ r : Int, e = .returned (.int .i64 r) ∧ Pt l key r ∧ Below w0.heap.size w0 w' := by
  have HE := hide2 E
  have H0 := hide2 h
  have hl40 := E.len
  clear E h
  go_enter Tryd.func36, Tryd.ntmps36
  go_wp2
  go_loopw [5] (fun i wr => ∃ m : Nat, m ≤ l.length ∧ i = .int .i64 m ∧ Hid (∀ u ∈ l.take m, u.o.tw ≠ 0 → u.x.key ≠ key) ∧ Hid (Below w0.heap.size w0 wr)) (fun i _ => l.length - (intOf i).toNat)
  case atStart => exact ⟨0, by omega, rfl, hide2 (fun u hu => by simp at hu), hide2 (Below.refl _ _)⟩
  case round =>
    obtain ⟨m, hm, rfl, NO, BL⟩ := hrel
    by_cases hml : m < l.length
    · have hmi : (m : Int) < (l.length : Int) := by omega
      have H := hide2 (H0.out.below BL.out)
      obtain ⟨u, hu⟩ : ∃ u, l[m]? = some u := ⟨_, List.getElem?_eq_getElem hml⟩
      have hum := List.mem_of_getElem? hu
      obtain ⟨now, t, hti⟩ := HE.out.ti
      obtain ⟨st5, f16, iff5⟩ := (hti.one u hum).fin5 HE.out.ok (HE.out.all u hum)
      obtain ⟨g, cap9, ev9⟩ : ∃ g cap9, Value.slice vo l.length vc = .slice (some ⟨g, 0, none⟩) l.length cap9 := by
        rcases H.out.row.2 with ⟨e, e0⟩ | ⟨g9, c9, cur9, e, -⟩
        · omega
        · exact ⟨g9, c9, e⟩
      simp only [Value.slice.injEq, true_and] at ev9
      obtain ⟨rfl, rfl⟩ := ev9
      have cp : wr.cell? ⟨g, m * 8 + 5, none⟩ = some (.pointer (some ⟨u.b, 0, none⟩)) := H.out.cellAt hu 5 (by decide)
      obtain ⟨hd, ehd⟩ : ∃ b, b = u.o.had := ⟨_, rfl⟩
      obtain ⟨cd, ecd⟩ : ∃ b, b = u.o.code := ⟨_, rfl⟩
      obtain ⟨p, hpp⟩ : ∃ b, b = pk u.x.kind 3 := ⟨_, rfl⟩
      have hrf := ref_done (H.out.ops u hum) st5 f16
      have hxok := HE.out.ox u hum
      rw [← ehd, ← ecd] at hrf
      rw [← ehd, ← ecd, okd_pk, ← hpp] at iff5
      have HRF := hide2 hrf
      have HIF := hide2 iff5
      have HPP := hide2 hpp
      have HUU := hide2 hu
      have HXO := hide2 hxok
      clear hrf iff5 ehd ecd hpp st5 f16 hum hxok hu hti
      go_wp2_with fail
      refine HRF.out.mono ?_
      rintro e w3 ⟨rfl, hb3⟩
      have H3 := H.out.below hb3
      have y1 : w3.cell? ⟨g, m * 8 + 1, none⟩ = some (.int .i64 u.x.kind) := H3.cellAt HUU.out 1 (by decide)
      have y2 : w3.cell? ⟨g, m * 8 + 2, none⟩ = some (.string u.x.key) := H3.cellAt HUU.out 2 (by decide)
      have BL3 : Hid (Below w0.heap.size w0 w3) := hide2 (BL.out.trans ⟨hb3.os, hb3.tape, hb3.output, hb3.size, fun j hj => hb3.block j (by have := BL.out.size; omega)⟩)
      have HPK := hide2 (pick_any u.x.kind HXO.out.2.1 3 (by decide) (by decide) w3)
      rw [← HPP.out] at HPK
      clear HRF hb3 H cp H3 BL
      go_wp2_with fail
      refine HPK.out.mono ?_
      rintro e w4 ⟨rfl, hw4⟩
      replace hw4 := hw4.symm
      subst hw4
      clear HPK y1
      have NX : (u.o.tw ≠ 0 → u.x.key ≠ key) → Hid (∀ u ∈ l.take (m + 1), u.o.tw ≠ 0 → u.x.key ≠ key) := fun q => hide2 (fun y hy => by
        rw [take_next HUU.out] at hy
        rcases List.mem_append.1 hy with c | c
        · exact NO.out y c
        · simp at c; subst c; exact q)
      by_cases p0 : p = 0
      · have P0 : decide ((p : Int) = 0) = true := by simp [p0]
        have P1 : (p : Int) = 0 := by omega
        by_cases ek : u.x.key = key
        · have K1 := same_yes ek
          cases hd with
          | true =>
            have N1 := NX (fun c => absurd (HIF.out.2 c).2.1 (by decide))
            clear NX NO HIF ek
            go_wp2
            go_roundw
            case rel => exact ⟨m + 1, by omega, by go_num, N1, BL3⟩
            case measure => simp [intOf]; omega
          | false =>
            by_cases c0 : cd = 0
            · have C0 : decide (cd = 0) = true := decide_eq_true c0
              have HRES : Hid (Pt l key (m : Int)) := hide2 (.inl ⟨m, u, rfl, HUU.out, HIF.out.1 ⟨p0, rfl, c0⟩, ek⟩)
              clear NX NO HIF ek
              go_wp2
              go_ret
              exact ⟨_, rfl, HRES.out, BL3.out⟩
            · have C0 : decide (cd = 0) = false := decide_eq_false c0
              have N1 := NX (fun c => absurd (HIF.out.2 c).2.2 c0)
              clear NX NO HIF ek
              go_wp2
              go_roundw
              case rel => exact ⟨m + 1, by omega, by go_num, N1, BL3⟩
              case measure => simp [intOf]; omega
        · have K1 := same_no ek
          have N1 := NX (fun _ => ek)
          clear NX NO HIF
          go_wp2
          go_roundw
          case rel => exact ⟨m + 1, by omega, by go_num, N1, BL3⟩
          case measure => simp [intOf]; omega
      · have P0 : decide ((p : Int) = 0) = false := by simp; omega
        have P1 : ¬ (p : Int) = 0 := by omega
        have N1 := NX (fun c => absurd (HIF.out.2 c).1 p0)
        clear NX NO HIF
        go_wp2
        go_roundw
        case rel => exact ⟨m + 1, by omega, by go_num, N1, BL3⟩
        case measure => simp [intOf]; omega
    · have hmi : ¬ (m : Int) < (l.length : Int) := by omega
      have HRES : Hid (Pt l key (-1)) := hide2 (.inr ⟨rfl, fun u hu => NO.out u (by rw [List.take_of_length_le (by omega)]; exact hu)⟩)
      clear NO
      go_wp2
      go_ret
      exact ⟨_, rfl, HRES.out, BL.out⟩
end
end

section
open Go.RowKit Go.Maps Go.Sort

/-- What an ask's variable holds. -/
def Xw (w : World) (b : Nat) (u : Un) : Prop := w.heap[b]? = some (.cells #[.int .i64 u.x.w, .int .i64 u.x.kind, .string u.x.key, .int .i64 u.x.ref, .int .i64 u.x.h] 33 (0, 0))
theorem Xw.cells {w : World} {b : Nat} {u : Un} (h : Xw w b u) : w.cell? ⟨b, 1, none⟩ = some (.int .i64 u.x.kind) ∧ w.cell? ⟨b, 2, none⟩ = some (.string u.x.key) := by
  unfold Xw at h
  refine ⟨?_, ?_⟩ <;> (rw [Go.Joins.cell_of_block h]; rfl)
theorem Xw.below {w w' : World} {b : Nat} {u : Un} (h : Xw w b u) (hb : Below w.heap.size w w') : Xw w' b u := (hb.block _ (Array.getElem?_eq_some_iff.1 h).1).trans h
theorem bel {a b c : World} (h : Below a.heap.size a b) (k : Below b.heap.size b c) : Below a.heap.size a c := h.trans ⟨k.os, k.tape, k.output, k.size, fun j hj => k.block j (by have := h.size; omega)⟩
theorem bad_pk (x : AskR) : bad x = true ↔ (pk x.kind 3 ≠ 2 ∧ good x.key = false) := by
  have := pk_lt x.kind (n := 3) (by decide)
  have e : okd x = 1 ↔ pk x.kind 3 = 2 := by
    unfold okd
    refine ⟨fun h => ?_, fun h => by rw [if_neg (by omega), if_neg (by omega)]⟩
    split at h
    · omega
    · split at h <;> omega
  unfold bad
  cases hg : good x.key <;> simp [e]
section
variable {w w0 : World} {lb d : Nat} {K : Nat → Prop} {s : Sl} {l : List Un} {vo : Option Addr} {vc : Nat}
/-- Whoever has put a key in is the one. -/
theorem Ev.one (E : Ev s l) {i j : Nat} {u v : Un} (hi : l[i]? = some u) (hj : l[j]? = some v) (hu : u.o.tw ≠ 0) (hv : v.o.tw ≠ 0) (hk : u.x.key = v.x.key) : i = j := by
  obtain ⟨now, t, ti⟩ := E.ti
  have a := (ti.one u (List.mem_of_getElem? hi)).owns hu
  have b := (ti.one v (List.mem_of_getElem? hj)).owns hv
  exact ti.uni i j u v hi hj hu (E.ok.one _ _ a.lt.2 b.lt.2 (by rw [a.k, b.k, hk]))
/-- The tower that a key has, and who has put it in. -/
theorem Ev.has (E : Ev s l) {j : Nat} (h1 : 1 ≤ j) (hj : j < s.tw.length) : ∃ (f : Nat) (v : Un), l[f]? = some v ∧ v.o.tw = j ∧ v.x.key = (s.at j).k ∧ v.x.ref = (s.at j).r := by
  obtain ⟨now, t, ti⟩ := E.ti
  obtain ⟨v, hv, hw⟩ := ti.own j h1 hj
  obtain ⟨f, hf⟩ := List.getElem?_of_mem hv
  have o := (ti.one v hv).owns (by omega)
  rw [hw] at o
  exact ⟨f, v, hf, hw, o.k.symm, o.r.symm⟩
/-- Of an answer with a key: who has put it in, and when that was begun. -/
theorem Ev.by (E : Ev s l) {i a : Nat} {u : Un} (hi : l[i]? = some u) (ha : u.fin = some a) (hb : bad u.x = false) (hf : u.o.fk ≠ .empty) {r : Int} (hp : Pt l u.o.fk r) : ∃ (f : Nat) (v : Un), r = (f : Int) ∧ l[f]? = some v ∧ v.o.tw ≠ 0 ∧ v.x.key = u.o.fk ∧ v.x.ref = u.o.nm ∧ v.beg ≤ a ∧ (u.o.tw ≠ 0 → f = i) ∧ (u.o.tw = 0 → f ≠ i) := by
  obtain ⟨now, t, ti⟩ := E.ti
  have hum := List.mem_of_getElem? hi
  have fd := (ti.one u hum).fed (by rw [ha]; rfl) hb
  have key : ∃ jj, 1 ≤ jj ∧ jj < s.tw.length ∧ (s.at jj).k = u.o.fk ∧ (s.at jj).r = u.o.nm := by
    rcases fd.ans with q | q | q | q
    · exact ⟨u.o.tw, q.2.1.lt.1, q.2.1.lt.2, by rw [q.2.1.k, q.2.2.2.1], by rw [q.2.1.r, q.2.2.2.2]⟩
    · obtain ⟨_, _, h2, jj, h3, h4, h5, h6⟩ := q
      exact ⟨jj, h3, h4, by rw [h5, h2], h6⟩
    · exact q.2.2.2.1
    · exact absurd q.2.2.2.1 hf
  obtain ⟨jj, k1, k2, k3, k4⟩ := key
  obtain ⟨f, v, v1, v2, v3, v4⟩ := E.has k1 k2
  have hvw : v.o.tw ≠ 0 := by omega
  obtain ⟨y, hy, y1, y2, y3⟩ := ti.hb u hum a ha fd.code hf
  obtain ⟨fy, hfy⟩ := List.getElem?_of_mem hy
  have efy : fy = f := E.one hfy v1 y1 hvw (by rw [y2, v3, k3])
  have evy : y = v := by rw [efy, v1] at hfy; exact (Option.some.inj hfy).symm
  rcases hp with ⟨f2, v5, rfl, p2, p3, p4⟩ | ⟨_, p2⟩
  · have e2 : f2 = f := E.one p2 v1 p3 hvw (by rw [p4, v3, k3])
    have e3 : v5 = v := by rw [e2, v1] at p2; exact (Option.some.inj p2).symm
    subst e2 e3
    refine ⟨f2, v5, rfl, v1, hvw, p4, by rw [v4, k4], by rw [← evy]; exact y3, fun q => ?_, fun q e => ?_⟩
    · exact E.one v1 hi hvw q (by
        rw [p4]
        rcases fd.ans with c | c | c | c
        · exact c.2.2.2.1
        · exact absurd c.1 q
        · exact absurd c.1 q
        · exact absurd c.1 q)
    · rw [e, hi] at v1
      cases v1
      exact p3 q
  · exact absurd (by rw [v3, k3]) (p2 v (List.mem_of_getElem? v1) hvw)
end
end
end Go.Proofs.YtopihgdbfhiejaaDoor
