package tests

import (
	"math"
	"slices"
	"testing"

	"loop.example/g00374/impl"
)

func write(lba int64, data string, power int64) impl.AAct {
	return impl.AAct{Kind: impl.AaWrite, Lba: lba, Data: data, Power: power}
}

func lose(member int64) impl.AAct {
	return impl.AAct{Kind: impl.AaLose, Member: member}
}

func replace(power int64) impl.AAct {
	return impl.AAct{Kind: impl.AaReplace, Power: power}
}

func start(power int64) impl.AAct {
	return impl.AAct{Kind: impl.AaStart, Power: power}
}

// plain is a copy of the array in which each empty list is nil.
func plain(a impl.Array) impl.Array {
	a.Weights = append([]int64(nil), a.Weights...)
	a.Log = append([]impl.Record(nil), a.Log...)
	a.Members = append([]impl.Ftl(nil), a.Members...)
	for m, f := range a.Members {
		f.Map = append([]int64(nil), f.Map...)
		f.Chip.Blocks = append([]impl.Block(nil), f.Chip.Blocks...)
		for b, block := range f.Chip.Blocks {
			f.Chip.Blocks[b].Pages = append([]impl.Page(nil), block.Pages...)
		}
		a.Members[m] = f
	}
	return a
}

func sameArray(t *testing.T, what string, got, want impl.Array) {
	t.Helper()
	same(t, what, plain(got), plain(want))
}

// downed is the array when the power is lost then: chips, and no more of its members.
func downed(a impl.Array) impl.Array {
	a = plain(a)
	a.Down = true
	for m, f := range a.Members {
		a.Members[m] = impl.Ftl{Chip: f.Chip}
	}
	return a
}

func newArray(weights []int64, blocks int64) impl.Array {
	a := impl.Array{Weights: slices.Clone(weights), Blocks: blocks, Lost: -1}
	for range weights {
		f, _ := impl.FtlNew(blocks)
		a.Members = append(a.Members, f)
	}
	return a
}

func xorByHand(texts ...string) string {
	sum := make([]byte, 4)
	for _, text := range texts {
		for i := range sum {
			sum[i] ^= text[i]
		}
	}
	return string(sum)
}

func pageByHand(a impl.Array, member, stripe int64) string {
	s, ok := impl.PageAt(a.Members[member], stripe)
	if !ok {
		panic("no page")
	}
	return s
}

// othersByHand is what the pages of all members of a stripe come to but this one's.
func othersByHand(a impl.Array, member, stripe int64) string {
	sum := zeros
	for m := range int64(len(a.Members)) {
		if m != member {
			sum = xorByHand(sum, pageByHand(a, m, stripe))
		}
	}
	return sum
}

// placeByHand is the member, the stripe and the parity of a block.
func placeByHand(a impl.Array, lba int64) (int64, int64, int64) {
	width := int64(len(a.Weights) - 1)
	stripe := lba / width
	return dataMembers(a.Weights, stripe)[lba%width], stripe, parityByHand(a.Weights, stripe)
}

func recordByHand(a impl.Array, lba int64, data string) impl.Record {
	member, stripe, parity := placeByHand(a, lba)
	r := impl.Record{Lba: lba, Data: data}
	if a.Lost == parity {
		return r
	}
	was := ""
	if a.Lost == member {
		was = othersByHand(a, member, stripe)
	} else {
		was = pageByHand(a, member, stripe)
	}
	r.Parity = xorByHand(pageByHand(a, parity, stripe), was, data)
	return r
}

// course is what an act goes through, by the words of the document: the array when the power is lost ahead of each of
// its steps, and what it is in the end.
type course struct {
	cuts  []impl.Array
	a     impl.Array
	stuck bool // a write or a recovery is refused
}

func (c *course) step(make func()) {
	c.cuts = append(c.cuts, downed(c.a))
	make()
}

func (c *course) write(member, stripe int64, data string) {
	if member == c.a.Lost {
		return
	}
	f := &c.a.Members[member]
	if c.stuck = c.stuck || f.Seq > impl.MaxSeq-10 || isWorn(f.Chip); c.stuck {
		return
	}
	ops := opsByHand(*f, stripe, data)
	for k := range ops {
		c.step(func() { f.Chip = doneByHand(f.Chip, ops[k:k+1]) })
	}
	last := ops[len(ops)-1]
	f.Map, f.Seq, f.Open = mapByHand(f.Chip), last.Page.Seq+1, last.Block
}

func (c *course) redo(r impl.Record) {
	member, stripe, parity := placeByHand(c.a, r.Lba)
	c.write(member, stripe, r.Data)
	c.write(parity, stripe, r.Parity)
	c.step(func() { c.a.Log = nil })
}

func (c *course) replace() {
	lost, ahead := c.a.Lost, plain(c.a)
	f, _ := impl.FtlNew(c.a.Blocks)
	aside := course{a: impl.Array{Lost: -1, Members: []impl.Ftl{f}}}
	for stripe := range 4 * (c.a.Blocks - 3) {
		if page := othersByHand(ahead, lost, stripe); page != zeros {
			aside.write(0, stripe, page)
		}
	}
	for range aside.cuts {
		c.step(func() {})
	}
	c.step(func() { c.a.Members[lost], c.a.Lost = aside.a.Members[0], -1 })
}

func (c *course) start() {
	for m := range c.a.Members {
		if int64(m) == c.a.Lost {
			continue
		}
		f := &c.a.Members[m]
		ops, open, ok := tidyByHand(f.Chip)
		if !ok {
			c.stuck = true
			return
		}
		for k := range ops {
			c.step(func() { f.Chip = doneByHand(f.Chip, ops[k:k+1]) })
		}
		f.Map, f.Seq, f.Open = mapByHand(f.Chip), topOf(f.Chip)+1, open
	}
	for _, r := range c.a.Log {
		c.redo(r)
	}
	c.a.Down = false
}

func isWorn(c impl.Chip) bool {
	return slices.ContainsFunc(c.Blocks, func(b impl.Block) bool { return b.Wear == impl.MaxWear })
}

func topOf(c impl.Chip) int64 {
	top := int64(0)
	for _, block := range c.Blocks {
		for _, p := range block.Pages {
			top = max(top, p.Seq)
		}
	}
	return top
}

// courseOf goes through an act that is not refused.
func courseOf(a impl.Array, x impl.AAct) course {
	c := course{a: plain(a)}
	switch x.Kind {
	case impl.AaWrite:
		r := recordByHand(a, x.Lba, x.Data)
		c.step(func() { c.a.Log = []impl.Record{r} })
		c.redo(r)
	case impl.AaLose:
		c.a.Members[x.Member], c.a.Lost = impl.Ftl{}, x.Member
	case impl.AaReplace:
		c.replace()
	case impl.AaStart:
		c.start()
	}
	return c
}

// acts asks for an act at every Power that makes a difference, and answers the array behind all its steps.
func acts(t *testing.T, a impl.Array, x impl.AAct) impl.Array {
	t.Helper()
	as := plain(a)
	c := courseOf(a, x)
	for k, cut := range c.cuts {
		x.Power = int64(k)
		b, code := impl.ArrayDo(a, x)
		same(t, "code of a cut", code, int64(impl.ArPower))
		sameArray(t, "array of a cut", b, cut)
	}
	for _, power := range []int64{int64(len(c.cuts)), int64(len(c.cuts)) + 1, -1, -2, math.MaxInt64, math.MinInt64} {
		x.Power = power
		b, code := impl.ArrayDo(a, x)
		same(t, "code", code, int64(impl.ArDone))
		sameArray(t, "array", b, c.a)
	}
	sameArray(t, "argument", a, as)
	return c.a
}

// done is the array behind an act that takes all its steps.
func done(t *testing.T, a impl.Array, x impl.AAct) impl.Array {
	t.Helper()
	b, code := impl.ArrayDo(a, x)
	same(t, "code", code, int64(impl.ArDone))
	return b
}

func declines(t *testing.T, name string, a impl.Array, x impl.AAct, want int64) {
	t.Helper()
	as := plain(a)
	for _, power := range []int64{-1, 0, 1, 3, 100, math.MinInt64, math.MaxInt64} {
		x.Power = power
		b, code := impl.ArrayDo(a, x)
		same(t, name+": code", code, want)
		sameArray(t, name+": as it is", b, as)
		sameArray(t, name+": argument", a, as)
	}
}

// holds asks for all that can be read of an array that is up.
func holds(t *testing.T, a impl.Array, want []string) {
	t.Helper()
	same(t, "right", impl.ArrayOk(a), true)
	same(t, "size", impl.SizeOf(a), int64(len(want)))
	for lba, text := range want {
		s, ok := impl.BlockAt(a, int64(lba))
		if !ok || s != text {
			t.Errorf("block %d: got %q %v, want %q", lba, s, ok, text)
		}
	}
	for stripe := range 4 * (a.Blocks - 3) {
		same(t, "stripe", impl.StripeOk(a, stripe), a.Lost == -1)
		if a.Lost == -1 {
			same(t, "pages together", othersByHand(a, -1, stripe), zeros)
		}
	}
}

// holdsDown asks for all that can be asked of an array that is down.
func holdsDown(t *testing.T, a impl.Array) {
	t.Helper()
	same(t, "down", a.Down, true)
	same(t, "right", impl.ArrayOk(a), true)
	size := 4 * (a.Blocks - 3) * int64(len(a.Weights)-1)
	same(t, "size", impl.SizeOf(a), size)
	for _, n := range []int64{0, 1, size - 1} {
		s, ok := impl.BlockAt(a, n)
		same(t, "block", ok, false)
		same(t, "text", s, "")
		same(t, "stripe", impl.StripeOk(a, n), false)
	}
}

// bears asks that whichever one member is lost all blocks read as they did, and so when it is replaced.
func bears(t *testing.T, a impl.Array, want []string) {
	t.Helper()
	for m := range int64(len(a.Members)) {
		b := done(t, a, lose(m))
		sameArray(t, "lost", b, courseOf(a, lose(m)).a)
		holds(t, b, want)
		b = done(t, b, replace(-1))
		same(t, "none is lost", b.Lost, int64(-1))
		holds(t, b, want)
		for stripe := range 4 * (a.Blocks - 3) {
			same(t, "page of the new member", pageByHand(b, m, stripe), pageByHand(a, m, stripe))
		}
	}
}

// someLayouts are of 3, 4 and 5 members, some of weight 0.
func someLayouts() [][]int64 {
	return [][]int64{{2, 1, 1}, {0, 0, 3}, {1, 0, 2}, {1, 1, 1, 1}, {0, 2, 0, 1}, {5, 0, 0, 4, 1}, {1, 1, 1, 1, 1}}
}

// filled is an array behind this many writes by the dice, and what its blocks have then.
func filled(t *testing.T, weights []int64, blocks int64, many int, d *dice) (impl.Array, []string) {
	t.Helper()
	a := newArray(weights, blocks)
	want := slices.Repeat([]string{zeros}, int(4*(blocks-3))*(len(weights)-1))
	for many > 0 {
		l := make([]impl.AAct, min(many, 100))
		for i := range l {
			lba, data := d.below(int64(len(want))), dataOf(d.below(10000))
			l[i], want[lba] = write(lba, data, -1), data
		}
		b, codes := impl.ArrayPlay(a, l)
		same(t, "codes", codes, make([]int64, len(l)))
		a, many = b, many-len(l)
	}
	return a, want
}
