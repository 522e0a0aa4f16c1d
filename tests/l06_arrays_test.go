package tests

import (
	"math"
	"slices"
	"testing"

	"loop.example/g00374/impl"
)

func TestArrayConstants(t *testing.T) {
	same(t, "kinds", []int64{impl.AaWrite, impl.AaLose, impl.AaReplace, impl.AaStart}, []int64{1, 2, 3, 4})
	same(t, "codes", []int64{impl.ArDone, impl.ArWrong, impl.ArForm, impl.ArDown, impl.ArUp, impl.ArLost, impl.ArWhole, impl.ArWorn, impl.ArPower},
		[]int64{0, 1, 2, 3, 4, 5, 6, 7, 8})
}

// Promise 6: a new array is right, each of its blocks is zeros, and each stripe is nothing.
func TestArrayNew(t *testing.T) {
	for _, w := range rightLayouts() {
		for _, blocks := range []int64{4, 5, impl.MaxBlocks} {
			if blocks == impl.MaxBlocks && sumOf(w) > 6 {
				continue
			}
			a, ok := impl.ArrayNew(w, blocks)
			same(t, "ok", ok, true)
			sameArray(t, "array", a, newArray(w, blocks))
			holds(t, a, slices.Repeat([]string{zeros}, int(4*(blocks-3))*(len(w)-1)))
		}
	}
	for blocks := int64(4); blocks <= impl.MaxBlocks; blocks++ {
		a, ok := impl.ArrayNew([]int64{2, 1, 1}, blocks)
		same(t, "ok", ok, true)
		same(t, "size", impl.SizeOf(a), 8*(blocks-3))
	}
}

func TestArrayNewRefuses(t *testing.T) {
	refused := func(name string, w []int64, blocks int64) {
		t.Helper()
		a, ok := impl.ArrayNew(w, blocks)
		same(t, name, ok, false)
		same(t, name, a, impl.Array{})
	}
	for name, w := range wrongLayouts() {
		refused(name, w, 4)
		refused(name, w, 3)
	}
	for _, blocks := range []int64{3, 13, 0, -1, -4, math.MinInt64, math.MaxInt64, 1<<32 + 4} {
		refused("blocks", []int64{2, 1, 1}, blocks)
	}
}

// Promise 6: long plays of writes.
func TestPlaysOfWrites(t *testing.T) {
	d := dice(61)
	for _, w := range someLayouts() {
		a := newArray(w, 4)
		want := slices.Repeat([]string{zeros}, 4*(len(w)-1))
		for i := range int64(80) {
			lba, data := d.below(int64(len(want))), dataOf(i)
			a = acts(t, a, write(lba, data, 0))
			want[lba] = data
			holds(t, a, want)
			if i%20 == 19 {
				bears(t, a, want)
			}
			if t.Failed() {
				t.Fatal(w, i)
			}
		}
	}
}

func TestPlaysOfWritesToGreatMembers(t *testing.T) {
	d := dice(62)
	for i, w := range someLayouts() {
		a, want := filled(t, w, impl.MaxBlocks, 150, &d)
		for k := range 40 {
			lba, data := d.below(int64(len(want))), dataOf(d.below(10000))
			if k%5 == 0 {
				a = acts(t, a, write(lba, data, 0))
			} else {
				a = done(t, a, write(lba, data, -1))
			}
			want[lba] = data
			holds(t, a, want)
			if t.Failed() {
				t.Fatal(w, k)
			}
		}
		if i%3 == 0 {
			bears(t, a, want)
		}
	}
}

// Promise 6: acts of all kinds, none of which loses its power.
func TestPlaysOfActs(t *testing.T) {
	d := dice(63)
	for _, w := range someLayouts() {
		for _, blocks := range []int64{4, 5} {
			a, want := filled(t, w, blocks, 20, &d)
			for i := range 60 {
				switch d.below(6) {
				case 0:
					if a.Lost < 0 {
						a = acts(t, a, lose(d.below(int64(len(w)))))
					}
				case 1:
					if a.Lost >= 0 {
						a = acts(t, a, replace(0))
					}
				default:
					lba, data := d.below(int64(len(want))), dataOf(d.below(10000))
					a = acts(t, a, write(lba, data, 0))
					want[lba] = data
				}
				holds(t, a, want)
				if a.Lost < 0 && i%15 == 0 {
					bears(t, a, want)
				}
				if t.Failed() {
					t.Fatal(w, blocks, i)
				}
			}
		}
	}
}

// Zeros are data as any other; so are bytes of all kinds.
func TestDataOfAllKinds(t *testing.T) {
	a, want := newArray([]int64{2, 1, 1}, 4), slices.Repeat([]string{zeros}, 8)
	for i, data := range []string{zeros, "data", zeros, "\xff\xff\xff\xff", "\x00\xff\n ", "\x80\x00\x00\x00", "\x00\x00\x00\x01", "\xc3\xa9\xc3\xa9"} {
		lba := int64(i) * 3 % 8
		a = acts(t, a, write(lba, data, 0))
		want[lba] = data
		holds(t, a, want)
		bears(t, a, want)
	}
	// Zeros over zeros are written still.
	b := done(t, newArray([]int64{2, 1, 1}, 4), write(0, zeros, -1))
	same(t, "Seqs", []int64{b.Members[0].Seq, b.Members[1].Seq, b.Members[2].Seq}, []int64{2, 2, 1})
}

// The least array, step by step: member 0 has the parity of the stripes 0 and 1.
func TestStepsOfWrite(t *testing.T) {
	a := newArray([]int64{2, 1, 1}, 4)
	a = done(t, a, write(1, "tail", -1))
	page := func(seq int64, data string) impl.Page { return used(0, seq, data) }
	cut := func(power int64) impl.Array {
		t.Helper()
		b, code := impl.ArrayDo(a, write(0, "head", power))
		same(t, "code", code, int64(impl.ArPower))
		same(t, "down", b.Down, true)
		same(t, "right", impl.ArrayOk(b), true)
		return b
	}
	parity := xorByHand("head", "tail")
	record := []impl.Record{{Lba: 0, Data: "head", Parity: parity}}
	none := impl.Page{}
	for power, want := range []struct {
		log         []impl.Record
		data, extra impl.Page
	}{
		{nil, none, none},
		{record, none, none},
		{record, page(1, "head"), none},
		{record, page(1, "head"), page(2, parity)},
	} {
		b := cut(int64(power))
		same(t, "log", len(b.Log), len(want.log))
		same(t, "record", append([]impl.Record(nil), b.Log...), want.log)
		same(t, "page of the block", b.Members[1].Chip.Blocks[0].Pages[0], want.data)
		same(t, "page of the parity", b.Members[0].Chip.Blocks[0].Pages[1], want.extra)
		same(t, "all else", b.Members[2].Chip, a.Members[2].Chip)
		for _, f := range b.Members {
			same(t, "no more than chips", []int64{int64(len(f.Map)), f.Seq, f.Open}, []int64{0, 0, 0})
		}
	}
	b, code := impl.ArrayDo(a, write(0, "head", 4))
	same(t, "just enough", code, int64(impl.ArDone))
	holds(t, b, []string{"head", "tail", zeros, zeros, zeros, zeros, zeros, zeros})
}

// recordOf is what the log holds behind the first step of a write.
func recordOf(t *testing.T, a impl.Array, x impl.AAct) impl.Record {
	t.Helper()
	x.Power = 1
	b, code := impl.ArrayDo(a, x)
	same(t, "code", code, int64(impl.ArPower))
	if len(b.Log) != 1 {
		t.Fatal(b.Log)
	}
	return b.Log[0]
}

// countSteps is the least Power with which the act is done.
func countSteps(t *testing.T, a impl.Array, x impl.AAct) int64 {
	t.Helper()
	for x.Power = 0; x.Power < 200; x.Power++ {
		if _, code := impl.ArrayDo(a, x); code != impl.ArPower {
			same(t, "code", code, int64(impl.ArDone))
			return x.Power
		}
	}
	t.Fatal("no end")
	return -1
}

func TestRecordOfLostMembers(t *testing.T) {
	a := newArray([]int64{2, 1, 1}, 4)
	for lba, data := range []string{"aaaa", "bbbb", "cccc", "dddd", "eeee", "ffff", "gggg", "hhhh"} {
		a = done(t, a, write(int64(lba), data, -1))
	}
	// Of stripe 0 member 0 has the parity, 1 block 0 and 2 block 1.
	parity := xorByHand("next", "bbbb")
	for _, c := range []struct {
		name   string
		lost   int64
		parity string
		steps  int64
		writes [3]int64
	}{
		{"none", -1, parity, 4, [3]int64{1, 1, 0}},
		{"the parity's", 0, "", 3, [3]int64{0, 1, 0}},
		{"the block's own", 1, parity, 3, [3]int64{1, 0, 0}},
		{"another one", 2, parity, 4, [3]int64{1, 1, 0}},
	} {
		b := a
		if c.lost >= 0 {
			b = done(t, a, lose(c.lost))
		}
		same(t, c.name, recordOf(t, b, write(0, "next", 0)), impl.Record{Lba: 0, Data: "next", Parity: c.parity})
		// Each member has filled one block of four pages and more; none is emptied by this write.
		same(t, c.name+": steps", countSteps(t, b, write(0, "next", 0)), c.steps)
		e := done(t, b, write(0, "next", -1))
		for m := range b.Members {
			same(t, c.name+": writes of a member", e.Members[m].Seq-b.Members[m].Seq, c.writes[m])
		}
		holds(t, e, []string{"next", "bbbb", "cccc", "dddd", "eeee", "ffff", "gggg", "hhhh"})
	}
}

// A Power of just enough, of one less, and of one more, where blocks are emptied on the way.
func TestStepsOfEmptying(t *testing.T) {
	d := dice(64)
	longest := int64(0)
	for _, blocks := range []int64{4, 6, 8} {
		a, want := filled(t, []int64{1, 2, 1}, blocks, 60, &d)
		for range 30 {
			x := write(d.below(int64(len(want))), dataOf(d.below(10000)), 0)
			steps := countSteps(t, a, x)
			longest = max(longest, steps)
			same(t, "steps", steps, int64(len(courseOf(a, x).cuts)))
			a = acts(t, a, x)
		}
	}
	same(t, "both members emptied blocks at once", longest, int64(8))
}

func TestReplacing(t *testing.T) {
	a := newArray([]int64{2, 1, 1}, 4)
	want := slices.Repeat([]string{zeros}, 8)
	none := done(t, a, lose(2))
	same(t, "all is zeros: a step alone", countSteps(t, none, replace(0)), int64(1))
	sameArray(t, "as it was new", done(t, none, replace(1)), a)
	for _, c := range []struct {
		lba, member, steps int64
	}{{0, 1, 2}, {3, 2, 2}, {4, 0, 4}, {5, 2, 3}, {1, 2, 4}} {
		a = done(t, a, write(c.lba, "data", -1))
		want[c.lba] = "data"
		b := done(t, a, lose(c.member))
		same(t, "steps", countSteps(t, b, replace(0)), c.steps)
		e := acts(t, b, replace(0))
		holds(t, e, want)
		// One Seq a page that is written, from 1 on, in the order of stripes.
		same(t, "seq", e.Members[c.member].Seq, c.steps)
		for log, place := range e.Members[c.member].Map {
			if pageByHand(a, c.member, int64(log)) == zeros {
				same(t, "a page of zeros is not written", place, int64(-1))
			}
		}
	}
	// Two blocks of a stripe that are alike leave a parity of zeros.
	a = newArray([]int64{2, 1, 1}, 4)
	a = done(t, done(t, a, write(0, "both", -1)), write(1, "both", -1))
	b := done(t, a, lose(0))
	same(t, "steps", countSteps(t, b, replace(0)), int64(1))
	bears(t, a, []string{"both", "both", zeros, zeros, zeros, zeros, zeros, zeros})
}

func TestReplacingAll(t *testing.T) {
	d := dice(65)
	for _, w := range someLayouts() {
		for _, blocks := range []int64{4, 6, impl.MaxBlocks} {
			a, want := filled(t, w, blocks, 60, &d)
			m := d.below(int64(len(w)))
			b := acts(t, a, lose(m))
			c := courseOf(b, replace(0))
			if blocks < 6 {
				acts(t, b, replace(0))
			}
			for _, power := range []int64{0, 1, int64(len(c.cuts)) - 1} {
				e, code := impl.ArrayDo(b, replace(power))
				same(t, "code", code, int64(impl.ArPower))
				same(t, "lost as ahead", e.Lost, m)
				sameArray(t, "down", e, downed(b))
				holdsDown(t, e)
			}
			e := done(t, b, replace(int64(len(c.cuts))))
			sameArray(t, "replaced", e, c.a)
			holds(t, e, want)
		}
	}
}

// The codes, each ahead of the next one.
func TestActForms(t *testing.T) {
	up, _ := filled(t, []int64{2, 1, 1}, 4, 9, new(dice))
	lost := done(t, up, lose(1))
	down, _ := impl.ArrayDo(up, write(3, "next", 2))
	downLost, _ := impl.ArrayDo(lost, write(3, "next", 2))
	worn := plain(up)
	worn.Members[0].Seq = impl.MaxSeq
	for name, a := range map[string]impl.Array{"up": up, "lost": lost, "down": down, "down and lost": downLost, "worn": worn} {
		same(t, name, impl.ArrayOk(a), true)
		for _, kind := range []int64{0, 5, -1, 6, math.MinInt64, math.MaxInt64, 1<<32 + 1} {
			declines(t, name+": kind", a, impl.AAct{Kind: kind}, impl.ArForm)
			declines(t, name+": kind with data", a, impl.AAct{Kind: kind, Data: "data"}, impl.ArForm)
		}
		for _, lba := range outside(8) {
			declines(t, name+": block outside", a, write(lba, "data", 0), impl.ArForm)
		}
		for _, data := range []string{"", "abc", "abcde", "\u00e9.\u00e9", "abc\u00e9"} {
			declines(t, name+": data", a, write(0, data, 0), impl.ArForm)
		}
		for _, member := range outside(3) {
			declines(t, name+": member outside", a, lose(member), impl.ArForm)
		}
		for _, n := range []int64{1, 2, -1, math.MinInt64} {
			declines(t, name+": a write with a member", a, impl.AAct{Kind: impl.AaWrite, Data: "data", Member: n}, impl.ArForm)
			declines(t, name+": a loss with a block", a, impl.AAct{Kind: impl.AaLose, Member: 1, Lba: n}, impl.ArForm)
			for _, kind := range []int64{impl.AaReplace, impl.AaStart} {
				declines(t, name+": with a block", a, impl.AAct{Kind: kind, Lba: n}, impl.ArForm)
				declines(t, name+": with a member", a, impl.AAct{Kind: kind, Member: n}, impl.ArForm)
			}
		}
		for _, data := range []string{"data", "\x00", zeros} {
			for _, kind := range []int64{impl.AaLose, impl.AaReplace, impl.AaStart} {
				declines(t, name+": with data", a, impl.AAct{Kind: kind, Data: data}, impl.ArForm)
			}
		}
	}
}

func TestActCodes(t *testing.T) {
	up, want := filled(t, []int64{2, 1, 1}, 4, 9, new(dice))
	lost := done(t, up, lose(1))
	down, _ := impl.ArrayDo(up, write(3, "next", 2))
	downLost, _ := impl.ArrayDo(lost, write(3, "next", 2))
	for _, a := range []impl.Array{down, downLost} {
		declines(t, "write while down", a, write(0, "data", 0), impl.ArDown)
		declines(t, "write of the last block while down", a, write(7, "data", 0), impl.ArDown)
		declines(t, "replace while down", a, replace(0), impl.ArDown)
	}
	for _, a := range []impl.Array{up, lost} {
		declines(t, "start while up", a, start(0), impl.ArUp)
	}
	declines(t, "replace of none", up, replace(0), impl.ArWhole)
	for m := range int64(3) {
		declines(t, "a second loss", lost, lose(m), impl.ArLost)
		declines(t, "a second loss while down", downLost, lose(m), impl.ArLost)
		acts(t, up, lose(m))
		b := acts(t, down, lose(m))
		holdsDown(t, b)
		same(t, "the log stays", b.Log, down.Log)
	}
	want[3] = "next"
	holds(t, acts(t, down, start(0)), want)
	holds(t, acts(t, downLost, start(0)), want)
}

// A Seq of MaxSeq - 10 is taken, one above is not, whichever member has it, but one that is lost.
func TestWornMembers(t *testing.T) {
	for _, w := range [][]int64{{2, 1, 1}, {1, 0, 2, 1}} {
		d := dice(66)
		up, want := filled(t, w, 4, 25, &d)
		for m := range int64(len(w)) {
			for lba := range int64(len(want)) {
				for _, seq := range []int64{impl.MaxSeq - 11, impl.MaxSeq - 10, impl.MaxSeq - 9, impl.MaxSeq - 1, impl.MaxSeq} {
					a := plain(up)
					a.Members[m].Seq = seq
					spentOrNot(t, a, m, lba, seq > impl.MaxSeq-10)
				}
				for b := range 4 {
					for _, wear := range []int64{impl.MaxWear - 2, impl.MaxWear} {
						a := plain(up)
						a.Members[m].Chip.Blocks[b].Wear = wear
						spentOrNot(t, a, m, lba, wear == impl.MaxWear)
					}
				}
			}
		}
	}
}

// spentOrNot asks for ArWorn of a write or that it is done; when member m is lost it is done in any case, and so is its replacing.
func spentOrNot(t *testing.T, a impl.Array, m, lba int64, spent bool) {
	t.Helper()
	same(t, "right", impl.ArrayOk(a), true)
	if spent {
		declines(t, "worn", a, write(lba, "data", 0), impl.ArWorn)
	} else {
		b := done(t, a, write(lba, "data", -1))
		sameArray(t, "written", b, courseOf(a, write(lba, "data", -1)).a)
	}
	b := done(t, a, lose(m))
	e := done(t, b, write(lba, "data", -1))
	sameArray(t, "written without it", e, courseOf(b, write(lba, "data", -1)).a)
	// Another one is lost and replaced: what is worn does not take part in its writes.
	b = done(t, a, lose((m+1)%int64(len(a.Members))))
	e = done(t, b, replace(-1))
	sameArray(t, "replaced", e, courseOf(b, replace(-1)).a)
}

// What a step wears out, or a start would have to, is worn when the power is lost: such an array is down, and not right any more.
func TestWornWhenPowerIsLost(t *testing.T) {
	d := dice(67)
	seen := 0
	for range 20 {
		a, _ := filled(t, []int64{2, 1, 1}, 4, 30+int(d.below(9)), &d)
		for m := range a.Members {
			for b := range a.Members[m].Chip.Blocks {
				a.Members[m].Chip.Blocks[b].Wear = impl.MaxWear - 1
			}
		}
		x := write(d.below(8), "next", 0)
		c := courseOf(a, x)
		for k, cut := range c.cuts {
			x.Power = int64(k)
			b, code := impl.ArrayDo(a, x)
			same(t, "code", code, int64(impl.ArPower))
			sameArray(t, "array", b, cut)
			stuck := courseOf(b, start(0)).stuck
			same(t, "right", impl.ArrayOk(b), !stuck)
			if !stuck {
				continue
			}
			seen++
			notRight(t, "worn", b)
			e, codes := impl.ArrayPlay(a, []impl.AAct{x, start(-1), {}, lose(1)})
			same(t, "codes", codes, []int64{impl.ArPower, impl.ArWrong, impl.ArWrong, impl.ArWrong})
			sameArray(t, "no array", e, impl.Array{})
		}
	}
	same(t, "some were worn", seen > 5, true)
}

func TestReadingEdges(t *testing.T) {
	d := dice(69)
	for _, w := range someLayouts() {
		for _, blocks := range []int64{4, impl.MaxBlocks} {
			a, want := filled(t, w, blocks, 50, &d)
			size, stripes := int64(len(want)), 4*(blocks-3)
			for lost := int64(-1); lost < int64(len(w)); lost++ {
				b := a
				if lost >= 0 {
					b = done(t, a, lose(lost))
				}
				same(t, "size", impl.SizeOf(b), size)
				same(t, "size when down", impl.SizeOf(downed(b)), size)
				for _, lba := range []int64{0, size - 1} {
					s, ok := impl.BlockAt(b, lba)
					same(t, "ok", ok, true)
					same(t, "block", s, want[lba])
				}
				for _, stripe := range []int64{0, stripes - 1} {
					same(t, "stripe", impl.StripeOk(b, stripe), lost < 0)
					same(t, "stripe when down", impl.StripeOk(downed(b), stripe), false)
				}
				for _, n := range outside(size) {
					s, ok := impl.BlockAt(b, n)
					same(t, "block outside", ok, false)
					same(t, "text", s, "")
				}
				for _, n := range outside(stripes) {
					same(t, "stripe outside", impl.StripeOk(b, n), false)
				}
				holdsDown(t, downed(b))
			}
		}
	}
}

func TestArrayPlay(t *testing.T) {
	d := dice(70)
	for _, w := range someLayouts() {
		a, _ := filled(t, w, 4, 10, &d)
		for _, many := range []int{0, 1, 2, 99, 100} {
			l := make([]impl.AAct, many)
			want, codes := a, make([]int64, many)
			for i := range l {
				l[i] = impl.AAct{Kind: 1 + d.below(4), Power: d.below(40) - 1}
				switch l[i].Kind {
				case impl.AaWrite:
					l[i].Lba, l[i].Data = d.below(18)-1, dataOf(d.below(10000))
				case impl.AaLose:
					l[i].Member = d.below(int64(len(w)) + 1)
				}
				want, codes[i] = impl.ArrayDo(want, l[i])
			}
			as := slices.Clone(l)
			b, got := impl.ArrayPlay(a, l)
			sameArray(t, "array", b, want)
			same(t, "codes", append([]int64{}, got...), codes)
			same(t, "right", impl.ArrayOk(b), true)
			same(t, "acts", l, as)
		}
		for _, many := range []int{101, 102, 1000} {
			b, codes := impl.ArrayPlay(a, slices.Repeat([]impl.AAct{start(0)}, many))
			same(t, "no array", b, impl.Array{})
			same(t, "no codes", len(codes), 0)
		}
	}
	// Acts that are refused are told, and the next ones go on.
	a := newArray([]int64{2, 1, 1}, 4)
	b, codes := impl.ArrayPlay(a, []impl.AAct{
		{}, write(8, "data", -1), start(-1), replace(-1), write(0, "data", -1), lose(1), lose(0), write(0, "more", 1), write(0, "most", -1), replace(-1),
		start(0), start(-1), replace(1), start(0), replace(2), write(1, "tail", -1),
	})
	same(t, "codes", codes, []int64{
		impl.ArForm, impl.ArForm, impl.ArUp, impl.ArWhole, impl.ArDone, impl.ArDone, impl.ArLost, impl.ArPower, impl.ArDown, impl.ArDown,
		impl.ArPower, impl.ArDone, impl.ArPower, impl.ArDone, impl.ArDone, impl.ArDone,
	})
	holds(t, b, []string{"more", "tail", zeros, zeros, zeros, zeros, zeros, zeros})
}
