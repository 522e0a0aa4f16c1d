package tests

import (
	"slices"
	"testing"

	"loop.example/g00374/impl"
)

// codeByHand is the refusal of an act at a right array, by the words of the document, or ArDone.
func codeByHand(a impl.Array, x impl.AAct) int64 {
	size := 4 * (a.Blocks - 3) * int64(len(a.Weights)-1)
	formed := map[int64]bool{
		impl.AaWrite:   x.Member == 0 && x.Lba >= 0 && x.Lba < size && len(x.Data) == 4,
		impl.AaLose:    x.Lba == 0 && x.Data == "" && x.Member >= 0 && x.Member < int64(len(a.Weights)),
		impl.AaReplace: x.Lba == 0 && x.Data == "" && x.Member == 0,
		impl.AaStart:   x.Lba == 0 && x.Data == "" && x.Member == 0,
	}
	switch {
	case !formed[x.Kind]:
		return impl.ArForm
	case a.Down && (x.Kind == impl.AaWrite || x.Kind == impl.AaReplace):
		return impl.ArDown
	case x.Kind == impl.AaLose && a.Lost >= 0:
		return impl.ArLost
	case x.Kind == impl.AaReplace && a.Lost < 0:
		return impl.ArWhole
	case x.Kind == impl.AaStart && !a.Down:
		return impl.ArUp
	}
	return impl.ArDone
}

// actByHand is what ArrayDo answers at a right array whose members are not worn.
func actByHand(a impl.Array, x impl.AAct) (impl.Array, int64) {
	if code := codeByHand(a, x); code != impl.ArDone {
		return a, code
	}
	c := courseOf(a, x)
	if x.Power >= 0 && x.Power < int64(len(c.cuts)) {
		return c.cuts[x.Power], impl.ArPower
	}
	return c.a, impl.ArDone
}

// life is an array that acts, what its blocks have, and the one that was being written when the power was lost.
type life struct {
	a        impl.Array
	want     []string
	lba      int64
	was, now string
	cut      bool
}

func newLife(weights []int64, blocks int64) *life {
	return &life{a: newArray(weights, blocks), want: slices.Repeat([]string{zeros}, int(4*(blocks-3))*(len(weights)-1))}
}

// act asks for what the document tells, that the array is right behind it, and, when it is up again, that the block that was
// being written has that, or what was there.
func (l *life) act(t *testing.T, x impl.AAct) int64 {
	t.Helper()
	want, wantCode := actByHand(l.a, x)
	b, code := impl.ArrayDo(l.a, x)
	same(t, "code", code, wantCode)
	sameArray(t, "array", b, want)
	same(t, "right", impl.ArrayOk(b), true)
	l.a = b
	if x.Kind == impl.AaWrite && code == impl.ArDone {
		l.want[x.Lba] = x.Data
	}
	if x.Kind == impl.AaWrite && code == impl.ArPower {
		l.cut, l.lba, l.was, l.now = true, x.Lba, l.want[x.Lba], x.Data
	}
	if l.cut && !l.a.Down {
		s, _ := impl.BlockAt(l.a, l.lba)
		same(t, "that, or what was there", s == l.was || s == l.now, true)
		l.want[l.lba], l.cut = s, false
	}
	return code
}

// reads asks, when the array is up, that each block has what was written last.
func (l *life) reads(t *testing.T) {
	t.Helper()
	if l.a.Down {
		holdsDown(t, l.a)
		return
	}
	holds(t, l.a, l.want)
}

// thrownAct is one of all kinds, most with little power, some that are refused.
func (l *life) thrownAct(d *dice) impl.AAct {
	x := impl.AAct{Kind: []int64{1, 1, 1, 1, 1, 2, 3, 4, 4, 4}[d.below(10)], Power: d.below(10) - 1}
	switch x.Kind {
	case impl.AaWrite:
		x.Lba, x.Data = d.below(int64(len(l.want))), dataOf(d.below(10000))
		if d.below(20) == 0 {
			x.Lba = int64(len(l.want))
		}
	case impl.AaLose:
		x.Member = d.below(int64(len(l.a.Weights)))
	case impl.AaReplace:
		x.Power = d.below(50) - 1
	}
	return x
}

// Promise 7: any acts from a new array on.
func TestLives(t *testing.T) {
	d := dice(71)
	for _, w := range someLayouts() {
		for _, blocks := range []int64{4, 5, 7} {
			l := newLife(w, blocks)
			codes := map[int64]int{}
			for i := range 150 {
				codes[l.act(t, l.thrownAct(&d))]++
				if blocks < 7 || i%10 == 0 || l.cut {
					l.reads(t)
				}
				if t.Failed() {
					t.Fatal(w, blocks, i)
				}
			}
			for _, code := range []int64{impl.ArDone, impl.ArDown, impl.ArUp, impl.ArPower} {
				same(t, "some of each code", codes[code] > 0, true)
			}
		}
	}
}

func TestLivesOfGreatMembers(t *testing.T) {
	d := dice(72)
	for _, w := range [][]int64{{2, 1, 1}, {0, 2, 0, 1}, {1, 1, 1, 1, 1}} {
		l := newLife(w, impl.MaxBlocks)
		l.a, l.want = filled(t, w, impl.MaxBlocks, 200, &d)
		for i := range 60 {
			l.act(t, l.thrownAct(&d))
			if i%6 == 5 {
				for l.a.Down {
					l.act(t, start(d.below(12)))
				}
				l.reads(t)
			}
			if t.Failed() {
				t.Fatal(w, i)
			}
		}
	}
}

// raised asks that a start, cut at each of its steps and once more at some step behind that, leaves these blocks.
func raised(t *testing.T, d *dice, a impl.Array, want []string) {
	t.Helper()
	holdsDown(t, a)
	up := acts(t, a, start(0))
	holds(t, up, want)
	for power := range countSteps(t, a, start(0)) {
		b, _ := impl.ArrayDo(a, start(power))
		same(t, "right", impl.ArrayOk(b), true)
		same(t, "the log stays", append([]impl.Record(nil), b.Log...), append([]impl.Record(nil), a.Log...))
		for d.below(2) == 0 && b.Down {
			b, _ = impl.ArrayDo(b, start(d.below(4)))
			same(t, "right", impl.ArrayOk(b), true)
		}
		if b.Down && b.Lost < 0 && d.below(3) == 0 {
			b = done(t, b, lose(d.below(int64(len(a.Members)))))
		}
		if b.Down {
			b = done(t, b, start(-1))
		}
		holds(t, b, want)
	}
	if up.Lost >= 0 {
		holds(t, done(t, up, replace(-1)), want)
	}
}

// Promise 7: the power lost ahead of each step of a write, with no member lost and with each one, ahead of it and while it is down.
func TestPowerLostAtEachStepOfWrite(t *testing.T) {
	d := dice(73)
	for _, w := range [][]int64{{2, 1, 1}, {1, 0, 2}, {0, 2, 0, 1}, {1, 1, 0, 1, 1}} {
		a, want := filled(t, w, 4, 40, &d)
		for lost := int64(-1); lost < int64(len(w)); lost++ {
			b := a
			if lost >= 0 {
				b = done(t, a, lose(lost))
			}
			lba := d.below(int64(len(want)))
			for power := range countSteps(t, b, write(lba, "next", 0)) {
				e, _ := impl.ArrayDo(b, write(lba, "next", power))
				text := slices.Clone(want)
				// Behind the first step there is a record, and it is gone by.
				if power > 0 {
					text[lba] = "next"
				}
				raised(t, &d, e, text)
				for m := int64(0); m < int64(len(w)) && lost < 0; m++ {
					f := done(t, e, lose(m))
					same(t, "the record stays", f.Log, e.Log)
					raised(t, &d, f, text)
				}
				if t.Failed() {
					t.Fatal(w, lost, lba, power)
				}
			}
			// What is lost from now on has been written by some blocks more.
			a = done(t, a, write(lba, "next", -1))
			want[lba] = "next"
		}
	}
}

// The block's own member, the parity's and another one, lost while a write is half done: member 0 has the parity, 1 block 0, 2 block 1.
func TestLostWhileHalfWritten(t *testing.T) {
	d := dice(74)
	a := newArray([]int64{2, 1, 1}, 4)
	a = done(t, done(t, a, write(0, "head", -1)), write(1, "tail", -1))
	for power := int64(1); power < 4; power++ {
		down, _ := impl.ArrayDo(a, write(0, "next", power))
		for m := range int64(3) {
			b := done(t, down, lose(m))
			same(t, "the parity stays in the record", b.Log, []impl.Record{{Lba: 0, Data: "next", Parity: xorByHand("next", "tail")}})
			raised(t, &d, b, []string{"next", "tail", zeros, zeros, zeros, zeros, zeros, zeros})
			// One page and the end of the record, where one of the two is lost; two pages else.
			same(t, "steps", countSteps(t, b, start(0)), []int64{2, 2, 3}[m])
		}
		same(t, "steps of all", countSteps(t, down, start(0)), int64(3))
	}
}

// A replacing that loses its power leaves a member lost, as ahead, and blocks that read as they did.
func TestPowerLostAtEachStepOfReplacing(t *testing.T) {
	d := dice(75)
	for _, w := range [][]int64{{2, 1, 1}, {0, 2, 0, 1}, {1, 1, 1, 1, 1}} {
		for _, blocks := range []int64{4, 6} {
			a, want := filled(t, w, blocks, 30, &d)
			for m := range int64(len(w)) {
				b := done(t, a, lose(m))
				steps := countSteps(t, b, replace(0))
				for power := range steps {
					e, _ := impl.ArrayDo(b, replace(power))
					same(t, "lost as ahead", e.Lost, m)
					sameArray(t, "down, as it was", e, downed(b))
					e = done(t, e, start(0))
					holds(t, e, want)
					if power%5 == 0 {
						e = done(t, e, replace(steps))
						same(t, "none is lost", e.Lost, int64(-1))
						holds(t, e, want)
					}
				}
				if t.Failed() {
					t.Fatal(w, blocks, m)
				}
			}
		}
	}
}

// A start without steps needs no power.
func TestStartWithoutSteps(t *testing.T) {
	d := dice(76)
	for _, w := range someLayouts() {
		a, want := filled(t, w, 4, 15, &d)
		for lost := int64(-1); lost < int64(len(w)); lost++ {
			b := a
			if lost >= 0 {
				b = done(t, a, lose(lost))
			}
			e, code := impl.ArrayDo(b, write(0, "next", 0))
			same(t, "code", code, int64(impl.ArPower))
			same(t, "no log", len(e.Log), 0)
			same(t, "steps", countSteps(t, e, start(0)), int64(0))
			holds(t, acts(t, e, start(0)), want)
		}
	}
}

// TidyOps of a start are steps, too, member by member, but those of the one that is lost.
func TestTidyingIsSteps(t *testing.T) {
	// Pages of an even number of members with one chip are nothing together.
	same4 := impl.Array{Weights: []int64{1, 0, 2, 1}, Blocks: 5, Lost: -1, Down: true}
	for range 4 {
		same4.Members = append(same4.Members, impl.Ftl{Chip: begunChip(2)})
	}
	same(t, "two copies and an erasing a member", countSteps(t, same4, start(0)), int64(12))
	acts(t, same4, start(0))
	for power := range 12 {
		b, _ := impl.ArrayDo(same4, start(int64(power)))
		for m, f := range b.Members {
			erased := f.Chip.Blocks[2].Wear > same4.Members[m].Chip.Blocks[2].Wear
			same(t, "erased", erased, power >= 3*(m+1))
			begun := f.Chip.Blocks[1].Pages[2].Used
			same(t, "begun", begun, power > 3*m)
		}
	}
	for lost := range int64(3) {
		a := impl.Array{Weights: []int64{1, 1, 1}, Blocks: 5, Lost: lost, Down: true, Members: []impl.Ftl{{Chip: begunChip(2)}, {Chip: begunChip(1)}, {Chip: newChip(5)}}}
		a.Members[lost] = impl.Ftl{}
		same(t, "steps", countSteps(t, a, start(0)), []int64{3, 3, 6}[lost])
		b := acts(t, a, start(0))
		same(t, "right", impl.ArrayOk(b), true)
		for lba := range int64(16) {
			e := plain(a)
			e.Log = []impl.Record{{Lba: lba, Data: "next", Parity: "some"}}
			same(t, "right with a record", impl.ArrayOk(acts(t, e, start(0))), true)
		}
	}
}

// The power lost again and again while it starts: at the end there is the record still, and it is gone by.
func TestPowerLostWhileStarting(t *testing.T) {
	d := dice(77)
	for range 40 {
		w := someLayouts()[d.below(7)]
		a, want := filled(t, w, 4, 30+int(d.below(10)), &d)
		lba := d.below(int64(len(want)))
		if d.below(2) == 0 {
			a = done(t, a, lose(d.below(int64(len(w)))))
		}
		a, _ = impl.ArrayDo(a, write(lba, "next", 1))
		for range 25 {
			x := start(d.below(max(1, countSteps(t, a, start(0)))))
			b, code := impl.ArrayDo(a, x)
			same(t, "code", code, int64(impl.ArPower))
			holdsDown(t, b)
			a = b
		}
		want[lba] = "next"
		holds(t, acts(t, a, start(0)), want)
		if t.Failed() {
			t.Fatal(w, lba)
		}
	}
}
