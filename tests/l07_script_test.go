package tests

import (
	"slices"
	"strconv"
	"strings"
	"testing"

	"loop.example/g00374/impl"
)

func TestScriptConstants(t *testing.T) {
	same(t, "lines", impl.MaxScript, 40)
	same(t, "bytes", impl.MaxLines, 4000)
}

// Each row of the table, at a new array.
func TestScriptRows(t *testing.T) {
	for line, want := range map[string]string{
		"write 0 abcd":           "ok",
		"write 7 abcd":           "ok",
		"write 8 abcd":           "no 2",
		"write 999999999 abcd":   "no 2",
		"write 0 abc":            "no 2",
		"write 0 abcde":          "no 2",
		"write 0 0":              "no 2",
		"write 0 1234":           "ok",
		"write 0 abcd 4":         "ok",
		"write 0 1234 4":         "ok",
		"write 0 abcd 999999999": "ok",
		"write 8 abcd 0":         "no 2",
		"write 0 abc 0":          "no 2",
		"lose 0":                 "ok",
		"lose 2":                 "ok",
		"lose 3":                 "no 2",
		"lose 999999999":         "no 2",
		"replace":                "no 6",
		"replace 0":              "no 6",
		"start":                  "no 4",
		"start 0":                "no 4",
		"read 0":                 "read ....",
		"read 7":                 "read ....",
		"read 8":                 "no",
		"read 999999999":         "no",
		"stripe 0":               "yes",
		"stripe 3":               "yes",
		"stripe 4":               "not",
		"stripe 999999999":       "not",
		"wear 0":                 "wear 0 0 0 0",
		"wear 2":                 "wear 0 0 0 0",
		"wear 3":                 "what",
		"wear 999999999":         "what",
		"where 0":                "where 1 0 0",
		"where 1":                "where 2 0 0",
		"where 2":                "where 1 1 0",
		"where 3":                "where 2 1 0",
		"where 4":                "where 0 2 1",
		"where 5":                "where 2 2 1",
		"where 6":                "where 0 3 2",
		"where 7":                "where 1 3 2",
		"where 8":                "where 1 4 0",
		"where 12":               "where 0 6 1",
		"where 999999998":        "where 0 499999999 2",
		"where 999999999":        "where 1 499999999 2",
		"state":                  "state up",
	} {
		says(t, line+"\n", want+"\n")
		says(t, "   "+strings.ReplaceAll(line, " ", "    ")+"  \n", want+"\n")
	}
}

// A word too few, and one too many: nothing is done.
func TestScriptWordsTooFewOrTooMany(t *testing.T) {
	for _, line := range []string{
		"write", "write 0", "write abcd", "write 0 abcd 4 4", "write 0 abcd abcd", "write 0 abcd 4 x", "write abcd 0", "write 0 ab cd",
		"lose", "lose 0 0", "lose 0 1", "lose x",
		"replace x", "replace 9 9", "replace 0 0", "replace -1",
		"start x", "start 9 9", "start 0 0", "start -1",
		"read", "read 0 0", "read x", "stripe", "stripe 0 0", "stripe x", "wear", "wear 0 0", "wear x", "where", "where 0 0", "where x",
		"state 0", "state up", "state state", "state x",
	} {
		says(t, line+"\n", "what\n")
		says(t, line+"\nstate\nread 0\n", "what\nstate up\nread ....\n")
		says(t, "lose 1\n"+line+"\nstate\nread 0\n", "ok\nwhat\nstate up 1\nread ....\n")
		says(t, "write 0 abcd 1\n"+line+"\nstate\nstart\nread 0\n", "no 8\nwhat\nstate down\nok\nread abcd\n")
	}
}

func TestScriptFirstWords(t *testing.T) {
	for _, r := range rowsByHand() {
		word, rest, _ := strings.Cut(r.form, " ")
		rest = strings.NewReplacer("I", "0", "W", "abcd", "N", "9").Replace(" " + rest)
		for _, other := range []string{
			strings.ToUpper(word), strings.ToUpper(word[:1]) + word[1:], word[:len(word)-1], word[:1], word[1:], word + "s", word + word, word + "0",
			word + "\t", "\t" + word, word + "\r", word + "\x00", "\x00" + word, word + ",", word + "\x80", "\xff" + word, word + "\u00a0", "\u2003" + word,
			"x", "0", "ok", "no", "what", "yes", "not", "-", "\"" + word + "\"",
		} {
			says(t, other+rest+"\nstate\n", "what\nstate up\n")
		}
	}
	says(t, "wherever 0\nweary 0\nstates\nstarts\nreader 0\nstri 0\nstart0\nstate0\nread0\nlose0\n", strings.Repeat("what\n", 10))
}

// A word takes nothing from its neighbours: those of one row do not do for another.
func TestScriptWordsOfOtherRows(t *testing.T) {
	says(t, "read write\nlose state\nwrite read read\nwrite 0 read\nread 0\nwrite 0 lose 9\nread 0\nstart replace\n", "what\nwhat\nwhat\nok\nread read\nok\nread lose\nwhat\n")
}

// Numbers in decimal: digits without noughts ahead, at most nine.
func TestScriptNumbers(t *testing.T) {
	rows := map[string]func(n string) string{
		"write # abcd":   func(n string) string { return firstOf(n, 8, "ok", "no 2") },
		"write # abcd 9": func(n string) string { return firstOf(n, 8, "ok", "no 2") },
		"write 0 abcd #": func(n string) string { return firstOf(n, 4, "no 8", "ok") },
		"lose #":         func(n string) string { return firstOf(n, 3, "ok", "no 2") },
		"replace #":      func(n string) string { return "no 6" },
		"start #":        func(n string) string { return "no 4" },
		"read #":         func(n string) string { return firstOf(n, 8, "read ....", "no") },
		"stripe #":       func(n string) string { return firstOf(n, 4, "yes", "not") },
		"wear #":         func(n string) string { return firstOf(n, 3, "wear 0 0 0 0", "what") },
		"where #":        func(n string) string { return strings.TrimSuffix(scriptByHand("where "+n+"\n"), "\n") },
	}
	for form, want := range rows {
		for _, n := range []string{"0", "1", "2", "3", "4", "7", "8", "9", "10", "12", "40", "100", "1000", "90000009", "99999999", "100000000", "123456789", "999999999"} {
			says(t, strings.Replace(form, "#", n, 1)+"\n", want(n)+"\n")
		}
		for _, n := range []string{
			"00", "01", "000", "007", "000000001", "0000000000", "00000000000000000001", "1000000000", "1234567890", "9999999999", "4294967296", "9223372036854775808",
			"18446744073709551616", "18446744073709551617", strings.Repeat("9", 100), "-1", "-0", "+0", "+1", "--1", "-", "+", "1-", "1+", "a", "one", "1a", "a1", "0a", "0x1", "0b1",
			"0o1", "1e0", "1_0", "1.", ".1", "1.0", "0.0", "1,0", "0,", "/", ":", "1/", "1:", "/1", ":1", "\t1", "1\t", "1\r", "0\r", "1\x00", "\x001", "\x00", "\x80", "1\x80", "\xff1",
			"1\u00a0", "\uff11", "\u0661", "\u00b2", "\xb1", "0\xb0", "\x10", "1\x7f", "#", "'0'",
		} {
			says(t, strings.Replace(form, "#", n, 1)+"\nstate\nread 0\n", "what\nstate up\nread ....\n")
		}
	}
}

// firstOf is one text for numbers below count, the other for those that are not.
func firstOf(n string, count int64, below, above string) string {
	if number(n) < count {
		return below
	}
	return above
}

// Power of an act: none, one less than it takes, just enough, one more.
func TestScriptPower(t *testing.T) {
	for _, r := range []struct {
		name  string
		ahead []string
		act   string
		takes int64
		cut   string
	}{
		{"write of a new array", nil, "write 3 abcd", 4, "state down"},
		{"write with the block lost", []string{"write 3 data", "lose 2"}, "write 3 abcd", 3, "state down 2"},
		{"write with the parity lost", []string{"write 3 data", "lose 0"}, "write 3 abcd", 3, "state down 0"},
		{"write with another lost", []string{"write 3 data", "lose 1"}, "write 3 abcd", 4, "state down 1"},
		// The thirteenth page takes the last free block, so one is erased ahead of it, of each member.
		{"write that empties blocks", slices.Repeat([]string{"write 0 data"}, 12), "write 0 abcd", 6, "state down"},
		// Of member 0 alone; the second block has the newest page of stripe 3, which is copied.
		{"write that copies a page", append([]string{"write 0 zero", "write 0 next", "write 2 more", "write 4 last", "write 6 high"}, slices.Repeat([]string{"write 2 data"}, 7)...), "write 2 abcd", 6, "state down"},
		{"replacing of a new member", []string{"lose 1"}, "replace", 1, "state down 1"},
		{"replacing of some pages", []string{"write 0 aaaa", "write 3 bbbb", "write 6 cccc", "lose 0"}, "replace", 4, "state down 0"},
		{"replacing of all pages", []string{"write 0 aaaa", "write 2 bbbb", "write 5 cccc", "write 7 dddd", "lose 1"}, "replace", 5, "state down 1"},
		{"start without a record", []string{"write 0 abcd 0"}, "start", 0, "state down"},
		{"start with a record", []string{"write 0 abcd 1"}, "start", 3, "state down"},
		{"start with half of it written", []string{"write 0 abcd 2"}, "start", 3, "state down"},
		{"start with all of it written", []string{"write 0 abcd 3"}, "start", 3, "state down"},
		{"start with the block lost", []string{"write 0 abcd 2", "lose 1"}, "start", 2, "state down 1"},
		{"start with the parity lost", []string{"write 0 abcd 2", "lose 0"}, "start", 2, "state down 0"},
		{"start with another lost", []string{"write 0 abcd 2", "lose 2"}, "start", 3, "state down 2"},
		{"start behind a replacing", []string{"write 0 abcd", "lose 1", "replace 1"}, "start", 0, "state down 1"},
	} {
		t.Run(r.name, func(t *testing.T) {
			for n := range r.takes {
				cut := append(slices.Clone(r.ahead), r.act+" "+strconv.FormatInt(n, 10))
				lastSays(t, "no 8", cut...)
				lastSays(t, r.cut, append(cut, "state")...)
				lastSays(t, "no", append(cut, "read 0")...)
				lastSays(t, "not", append(cut, "stripe 0")...)
				lastSays(t, "ok", append(cut, "start")...)
				lastSays(t, strings.Replace(r.cut, "down", "up", 1), append(cut, "start", "state")...)
				script := scriptOf(append(cut, "state", "wear 0", "wear 1", "wear 2", "start", "state", "read 0", "read 3", "stripe 0", "wear 0", "wear 1", "wear 2"))
				says(t, script, scriptByHand(script))
			}
			for _, n := range []int64{r.takes, r.takes + 1, 999999999} {
				all := append(slices.Clone(r.ahead), r.act+" "+strconv.FormatInt(n, 10))
				lastSays(t, "ok", all...)
				lastSays(t, "no 4", append(all, "start")...)
				behind := []string{"state", "read 0", "read 3", "stripe 0", "wear 0", "wear 1", "wear 2"}
				script := scriptOf(append(all, behind...))
				says(t, script, scriptByHand(script))
				says(t, script, impl.RunScript(scriptOf(slices.Concat(r.ahead, []string{r.act}, behind))))
			}
		})
	}
}

// Each code that an act of a script can say.
func TestScriptCodes(t *testing.T) {
	lastSays(t, "ok", "write 0 abcd")
	lastSays(t, "no 2", "write 8 abcd")
	lastSays(t, "no 2", "write 0 abc")
	lastSays(t, "no 2", "lose 3")
	lastSays(t, "no 3", "write 0 abcd 0", "write 0 abcd")
	lastSays(t, "no 3", "write 0 abcd 0", "replace")
	lastSays(t, "no 3", "lose 1", "write 0 abcd 0", "replace")
	lastSays(t, "no 4", "start")
	lastSays(t, "no 4", "lose 1", "start")
	lastSays(t, "no 5", "lose 1", "lose 1")
	lastSays(t, "no 5", "lose 1", "lose 0")
	lastSays(t, "no 5", "lose 1", "write 0 abcd 0", "lose 2")
	lastSays(t, "no 6", "replace")
	lastSays(t, "no 6", "lose 1", "replace", "replace")
	lastSays(t, "no 8", "write 0 abcd 0")
	lastSays(t, "no 8", "lose 1", "replace 0")
	lastSays(t, "no 8", "write 0 abcd 1", "start 0")
	// The first that fails is told.
	lastSays(t, "no 2", "write 0 abcd 0", "write 8 abcd")
	lastSays(t, "no 2", "lose 1", "lose 3")
	lastSays(t, "ok", "write 0 abcd 0", "lose 1")
	lastSays(t, "ok", "write 0 abcd 0", "lose 1", "start", "replace")
}

// An array that is down, and behind its start.
func TestScriptDown(t *testing.T) {
	says(t,
		"write 0 head\nwrite 0 tail 0\nstate\nread 0\nread 8\nstripe 0\nstripe 4\nwear 1\nwear 3\nwhere 0\nstart\nstate\nread 0\nstripe 0\n",
		"ok\nno 8\nstate down\nno\nno\nnot\nnot\nwear 0 0 0 0\nwhat\nwhere 1 0 0\nok\nstate up\nread head\nyes\n")
	says(t,
		"write 0 head\nwrite 0 tail 1\nlose 1\nstate\nwear 1\nwear 2\nstart 1\nstate\nstart 2\nstate\nread 0\nstripe 0\nreplace 1\nstate\nstart\nread 0\nreplace\nstate\nread 0\nstripe 0\n",
		"ok\nno 8\nok\nstate down 1\nwear\nwear 0 0 0 0\nno 8\nstate down 1\nok\nstate up 1\nread tail\nnot\nno 8\nstate down 1\nok\nread tail\nok\nstate up\nread tail\nyes\n")
}

// Data of all bytes but 32 and 10, which no word has.
func TestScriptReads(t *testing.T) {
	for b := range 256 {
		if b == ' ' || b == '\n' {
			continue
		}
		shown := "."
		if b >= 33 && b <= 126 {
			shown = string(rune(b))
		}
		word := string([]byte{byte(b), 'a', byte(b), byte(b)})
		says(t, "write 5 "+word+"\nread 5\nlose 2\nread 5\n", "ok\nread "+shown+"a"+shown+shown+"\nok\nread "+shown+"a"+shown+shown+"\n")
	}
	says(t, "write 0 \x1f!~\x7f\nread 0\nwrite 0 \x80\xff\x00\t\nread 0\nwrite 0 \u00e9~!\nread 0\nwrite 0 \u20ac.\nread 0\n", "ok\nread .!~.\nok\nread ....\nok\nread ..~!\nok\nread ....\n")
	says(t, "write 0 \x00\x00\x00\x00\nread 0\nwrite 0 0000\nread 0\n", "ok\nread ....\nok\nread 0000\n")
}

// Each block, with no member lost, with each one lost, and when that is replaced.
func TestScriptReadsOfLostMembers(t *testing.T) {
	var writes, reads, want []string
	for lba := range 8 {
		n := strconv.Itoa(lba)
		writes = append(writes, "write "+n+" abc"+n)
		reads = append(reads, "read "+n)
		want = append(want, "read abc"+n)
	}
	all := strings.Repeat("ok\n", 8) + scriptOf(want)
	says(t, scriptOf(slices.Concat(writes, reads)), all)
	for _, m := range []string{"0", "1", "2"} {
		says(t, scriptOf(slices.Concat(writes, reads, []string{"lose " + m}, reads)), all+"ok\n"+scriptOf(want))
		says(t, scriptOf(slices.Concat(writes, []string{"lose " + m, "replace"}, reads, []string{"stripe 0", "stripe 3"})), strings.Repeat("ok\n", 10)+scriptOf(want)+"yes\nyes\n")
		// Blocks that are written while it is lost.
		says(t, scriptOf(slices.Concat([]string{"lose " + m}, writes, reads, []string{"replace"}, reads)), "ok\n"+all+"ok\n"+scriptOf(want))
	}
}

func TestScriptWear(t *testing.T) {
	many := slices.Repeat([]string{"write 0 abcd"}, 36)
	for count, want := range map[int]string{0: "0 0 0 0", 12: "0 0 0 0", 13: "1 0 0 0", 16: "1 0 0 0", 17: "1 1 0 0", 21: "1 1 1 0", 25: "1 1 1 1", 29: "2 1 1 1", 36: "2 2 1 1"} {
		for _, ends := range [][]string{{}, {"write 0 abcd 0"}} {
			lines := append(slices.Clone(many[:count]), ends...)
			lastSays(t, "wear "+want, append(lines, "wear 0")...)
			lastSays(t, "wear "+want, append(lines, "wear 1")...)
			lastSays(t, "wear 0 0 0 0", append(lines, "wear 2")...)
			lastSays(t, "what", append(lines, "wear 3")...)
			lastSays(t, "wear", append(lines, "lose 1", "wear 1")...)
			lastSays(t, "wear "+want, append(lines, "lose 1", "wear 0")...)
			lastSays(t, "what", append(lines, "lose 1", "wear 3")...)
		}
		lastSays(t, "wear 0 0 0 0", append(slices.Clone(many[:count]), "lose 1", "replace", "wear 1")...)
	}
}

func TestScriptStates(t *testing.T) {
	says(t, "state\nwrite 0 abcd 0\nstate\nstart\nstate\n", "state up\nno 8\nstate down\nok\nstate up\n")
	for _, m := range []string{"0", "1", "2"} {
		says(t, "lose "+m+"\nstate\nwrite 0 abcd 0\nstate\nstart\nstate\nreplace\nstate\n", "ok\nstate up "+m+"\nno 8\nstate down "+m+"\nok\nstate up "+m+"\nok\nstate up\n")
		says(t, "write 0 abcd 1\nlose "+m+"\nstate\nstart\nstate\n", "no 8\nok\nstate down "+m+"\nok\nstate up "+m+"\n")
	}
}

// 32 alone parts words, and 10 lines.
func TestScriptWords(t *testing.T) {
	for _, b := range []string{"\t", "\r", "\x00", "\v", "\f", "\x1f", "!", ",", "\x7f", "\x80", "\x85", "\xa0", "\xff", "\u00a0", "\u0085", "\u2028", "\u3000", "\ufeff"} {
		says(t, "write"+b+"0 abcd\nwrite 0"+b+"abcd\nwrite 0 abcd"+b+"4\nstate"+b+"\n"+b+"state\nread 0"+b+"\n", "what\nwhat\nno 2\nwhat\nwhat\nwhat\n")
		says(t, b+"\n "+b+" \nstate\n", "what\nwhat\nstate up\n")
		says(t, "write 0 "+b+"\n", map[bool]string{false: "no 2\n", true: "ok\n"}[len(b) == 4])
		dots := strings.Repeat(".", len(b))
		if strings.Contains("!,", b) {
			dots = b
		}
		says(t, "write 0 "+b+"zzz"[:4-len(b)]+"\nread 0\n", "ok\nread "+dots+"zzz"[:4-len(b)]+"\n")
	}
	says(t, "write 0 \ta\r\x00\nread 0\nstate\r\nread 0\r\n", "ok\nread .a..\nwhat\nwhat\n")
	says(t, "     write     3     abcd     4     \n  read  3  \n      state\nstate      \n", "ok\nread abcd\nstate up\nstate up\n")
	says(t, "\n\n \n    \nstate\n\n  \n", "state up\n")
}

func TestScriptBounds(t *testing.T) {
	const tooLong = "too long\n"
	says(t, "", "")
	says(t, "\n", "")
	says(t, strings.Repeat("\n", 40), "")
	says(t, strings.Repeat("\n", 41), tooLong)
	says(t, strings.Repeat(" \n", 40), "")
	says(t, strings.Repeat(" \n", 41), tooLong)
	says(t, strings.Repeat("state\n", 40), strings.Repeat("state up\n", 40))
	says(t, strings.Repeat("state\n", 41), tooLong)
	says(t, strings.Repeat("state\n", 40)+"\n", tooLong)
	says(t, "\n"+strings.Repeat("state\n", 40), tooLong)
	for _, last := range []string{"state", "x", " ", "\x00", "\r", "\x80", "write 0 abcd"} {
		says(t, last, tooLong)
		says(t, "state\n"+last, tooLong)
		says(t, "\n"+last, tooLong)
		says(t, strings.Repeat("state\n", 39)+last, tooLong)
		says(t, strings.Repeat("state\n", 40)+last, tooLong)
	}
	says(t, "state"+strings.Repeat(" ", 3994)+"\n", "state up\n")
	says(t, "state"+strings.Repeat(" ", 3995)+"\n", tooLong)
	says(t, "state"+strings.Repeat(" ", 3995), tooLong)
	says(t, strings.Repeat("x", 3999)+"\n", "what\n")
	says(t, strings.Repeat("x", 4000)+"\n", tooLong)
	says(t, "write 0 "+strings.Repeat("x", 3991)+"\n", "no 2\n")
	says(t, "write 0 "+strings.Repeat("x", 3992)+"\n", tooLong)
	says(t, "write "+strings.Repeat("1", 3993)+"\n", "what\n")
	says(t, strings.Repeat(" ", 3999)+"\n", "")
	says(t, strings.Repeat(" ", 4000)+"\n", tooLong)
	says(t, "state\n"+strings.Repeat(" ", 3993)+"\n", "state up\n")
	says(t, "state\n"+strings.Repeat(" ", 3994)+"\n", tooLong)
	// Bytes are counted, not runes.
	says(t, strings.Repeat("\u00e9", 1999)+"x\n", "what\n")
	says(t, strings.Repeat("\u00e9", 2000)+"\n", tooLong)
	says(t, strings.Repeat("\x00", 3999)+"\n", "what\n")
	// Both bounds at once.
	row := strings.Repeat(" ", 94) + "state\n"
	says(t, strings.Repeat(row, 40), strings.Repeat("state up\n", 40))
	says(t, strings.Repeat(row, 39)+" "+row, tooLong)
	says(t, strings.Repeat(row, 40)+"\n", tooLong)
	says(t, strings.Repeat("state\n", 1000000), tooLong)
	says(t, strings.Repeat(" ", 1000000), tooLong)
}

// Texts of whatever bytes: what the document says of them, and no panic.
func TestScriptsOfAllBytes(t *testing.T) {
	d := dice(81)
	for range 400 {
		text := make([]byte, d.below(120))
		for i := range text {
			text[i] = byte(d.below(256))
			if d.below(3) == 0 {
				text[i] = " \n0123 \n"[d.below(8)]
			}
		}
		text = append(text, '\n')
		says(t, string(text), scriptByHand(string(text)))
		says(t, string(text[:len(text)/2]), scriptByHand(string(text[:len(text)/2])))
	}
}
