package tests

import (
	"regexp"
	"strconv"
	"strings"
	"testing"

	"loop.example/g00374/impl"
)

// says asks for what a script says, and that it says so once more.
func says(t *testing.T, script, want string) {
	t.Helper()
	for range 2 {
		if got := impl.RunScript(script); got != want {
			t.Errorf("%q: got %q, want %q", script, got, want)
		}
	}
}

// lastSays asks for what the last of these lines says.
func lastSays(t *testing.T, want string, lines ...string) {
	t.Helper()
	got := impl.RunScript(scriptOf(lines))
	said := strings.Split(strings.TrimSuffix(got, "\n"), "\n")
	if last := said[len(said)-1]; last != want || len(said) != len(lines) {
		t.Errorf("%q: got %q, want %q at the end", lines, got, want)
	}
}

func scriptOf(lines []string) string {
	text := ""
	for _, line := range lines {
		text += line + "\n"
	}
	return text
}

// row is a line of the chapter's table: I and N are numbers, W is a word.
type row struct {
	form string
	says func(a *impl.Array, m []string) string
}

func rowsByHand() []row {
	return []row{
		{"write I W", func(a *impl.Array, m []string) string { return playByHand(a, write(number(m[0]), m[1], -1)) }},
		{"write I W N", func(a *impl.Array, m []string) string { return playByHand(a, write(number(m[0]), m[1], number(m[2]))) }},
		{"lose I", func(a *impl.Array, m []string) string { return playByHand(a, lose(number(m[0]))) }},
		{"replace", func(a *impl.Array, m []string) string { return playByHand(a, replace(-1)) }},
		{"replace N", func(a *impl.Array, m []string) string { return playByHand(a, replace(number(m[0]))) }},
		{"start", func(a *impl.Array, m []string) string { return playByHand(a, start(-1)) }},
		{"start N", func(a *impl.Array, m []string) string { return playByHand(a, start(number(m[0]))) }},
		{"read I", func(a *impl.Array, m []string) string { return readByHand(a, number(m[0])) }},
		{"stripe I", func(a *impl.Array, m []string) string { return stripeByHand(a, number(m[0])) }},
		{"wear I", func(a *impl.Array, m []string) string { return wearByHand(a, number(m[0])) }},
		{"where I", func(a *impl.Array, m []string) string { return whereByHand(a, number(m[0])) }},
		{"state", func(a *impl.Array, m []string) string { return stateByHand(a) }},
	}
}

// pattern is what lines of this form look like.
func (r row) pattern() *regexp.Regexp {
	words := strings.Fields(r.form)
	for i, word := range words {
		switch word {
		case "I", "N":
			words[i] = "(0|[1-9][0-9]{0,8})"
		case "W":
			words[i] = "([^ ]+)"
		}
	}
	return regexp.MustCompile("^ *" + strings.Join(words, " +") + " *$")
}

func number(word string) int64 {
	n, err := strconv.ParseInt(word, 10, 64)
	if err != nil {
		panic(err)
	}
	return n
}

func playByHand(a *impl.Array, x impl.AAct) string {
	b, code := actByHand(*a, x)
	*a = b
	if code == impl.ArDone {
		return "ok"
	}
	return "no " + strconv.FormatInt(code, 10)
}

func readByHand(a *impl.Array, lba int64) string {
	if a.Down || lba >= 8 {
		return "no"
	}
	member, stripe, _ := placeByHand(*a, lba)
	data := ""
	if member == a.Lost {
		data = othersByHand(*a, member, stripe)
	} else {
		data = pageByHand(*a, member, stripe)
	}
	return "read " + regexp.MustCompile(`[^!-~]`).ReplaceAllString(latin(data), ".")
}

// latin is a rune for each byte, so that patterns go byte by byte.
func latin(data string) string {
	l := []rune{}
	for i := range len(data) {
		l = append(l, rune(data[i]))
	}
	return string(l)
}

func stripeByHand(a *impl.Array, stripe int64) string {
	if a.Down || a.Lost >= 0 || stripe >= 4 || othersByHand(*a, -1, stripe) != zeros {
		return "not"
	}
	return "yes"
}

func wearByHand(a *impl.Array, member int64) string {
	if member > 2 {
		return "what"
	}
	text := "wear"
	for _, b := range a.Members[member].Chip.Blocks {
		text += " " + strconv.FormatInt(b.Wear, 10)
	}
	return text
}

func whereByHand(a *impl.Array, lba int64) string {
	member, stripe, parity := placeByHand(*a, lba)
	return "where " + strconv.FormatInt(member, 10) + " " + strconv.FormatInt(stripe, 10) + " " + strconv.FormatInt(parity, 10)
}

func stateByHand(a *impl.Array) string {
	return "state " + map[bool]string{false: "up", true: "down"}[a.Down] + map[int64]string{-1: "", 0: " 0", 1: " 1", 2: " 2"}[a.Lost]
}

// scriptByHand is what a script says, by the words of the document.
func scriptByHand(text string) string {
	lines := strings.SplitAfter(text, "\n")
	if last := len(lines) - 1; last > 40 || lines[last] != "" || len(text) > 4000 {
		return "too long\n"
	}
	a, said := newArray([]int64{2, 1, 1}, 4), ""
	rows := rowsByHand()
	for _, line := range lines {
		line = strings.TrimSuffix(line, "\n")
		if strings.Trim(line, " ") == "" {
			continue
		}
		what := "what"
		for _, r := range rows {
			if m := r.pattern().FindStringSubmatch(line); m != nil {
				what = r.says(&a, m[1:])
			}
		}
		said += what + "\n"
	}
	return said
}

// thrownWord is mostly of four bytes; it has no 32 and no line feed.
func thrownWord(d *dice) string {
	word := []byte{}
	for range []int64{4, 4, 4, 4, 4, 4, 1, 3, 5, 12}[d.below(10)] {
		b := byte(d.below(256))
		if d.below(2) == 0 || b == ' ' || b == '\n' {
			b = byte('!' + d.below(94))
		}
		word = append(word, b)
	}
	return string(word)
}

func thrownDigits(d *dice, below int64) string {
	if d.below(30) == 0 {
		return []string{"00", "01", "-1", "+1", "x", "1x", "999999999", "1000000000", "\t1", "1\r", "1.0", "8\x80"}[d.below(12)]
	}
	return strconv.FormatInt(d.below(below), 10)
}

// thrownAsking is a line that asks.
func thrownAsking(d *dice) string {
	switch d.below(6) {
	case 0, 1:
		return "read " + thrownDigits(d, 9)
	case 2:
		return "stripe " + thrownDigits(d, 5)
	case 3:
		return "wear " + thrownDigits(d, 4)
	case 4:
		return "where " + thrownDigits(d, 20)
	}
	return "state"
}

// thrownActing is a line that acts; most of its power is enough, or nearly.
func thrownActing(d *dice) string {
	switch d.below(12) {
	case 0:
		return "lose " + thrownDigits(d, 4)
	case 1, 2:
		return []string{"replace", "replace " + thrownDigits(d, 7)}[d.below(2)]
	case 3, 4:
		return []string{"start", "start " + thrownDigits(d, 6)}[d.below(2)]
	case 5, 6:
		return "write " + thrownDigits(d, 9) + " " + thrownWord(d) + " " + thrownDigits(d, 8)
	}
	return "write " + thrownDigits(d, 8) + " " + thrownWord(d)
}

// thrownLine is of all kinds: with blanks anywhere, with a word too many or too few, with no word.
func thrownLine(d *dice) string {
	line := thrownActing(d)
	if d.below(3) == 0 {
		line = thrownAsking(d)
	}
	switch d.below(24) {
	case 0:
		return strings.Repeat(" ", int(d.below(4)))
	case 1:
		return line + " " + thrownWord(d)
	case 2:
		return strings.Join(strings.Split(line, " ")[1:], " ")
	case 3:
		return strings.ToUpper(line)
	case 4:
		return strings.ReplaceAll(line, " ", []string{"\t", "\r", "\x00", ""}[d.below(4)])
	case 5, 6:
		return "  " + strings.ReplaceAll(line, " ", strings.Repeat(" ", 1+int(d.below(3)))) + " "
	}
	return line
}

func thrownLines(d *dice, many int) []string {
	l := make([]string, many)
	for i := range l {
		l[i] = thrownLine(d)
	}
	return l
}
