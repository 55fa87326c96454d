package tests

import (
	"slices"
	"strconv"
	"strings"
	"testing"

	"loop.example/g01168/impl"
)

// answerTo is what a line is answered, as the tests count.
func (n *counter) answerTo(line string, deeds map[string]impl.Deed) string {
	if d, isDeed := deeds[line]; isDeed {
		return codeText(n.do(d))
	}
	for i, reader := range n.readers {
		switch line {
		case "known " + strconv.Itoa(i):
			return strconv.Itoa(reader.count) + " " + map[bool]string{true: "done", false: "open"}[reader.done]
		case "last " + strconv.Itoa(i):
			return n.lastText(i, reader.count)
		}
	}
	return "what"
}

func codeText(code int64) string {
	return []string{"ok", "error invalid", "error range", "error limit", "error state"}[code]
}

func (n *counter) lastText(query, count int) string {
	if count == 0 {
		return "none"
	}
	words := slices.Clone(n.answers[query][count-1])
	for i, w := range words {
		if w == "" {
			words[i] = "-"
		}
	}
	return strings.Join(words, " ")
}

// isScript gives lines with and without a newline at the end.
func isScript(t *testing.T, s store, lines []string, want []string) {
	t.Helper()
	answers := strings.Join(append(slices.Clone(want), ""), "\n")
	texts := []string{strings.Join(lines, "\n") + "\n"}
	if len(lines) == 0 {
		texts = []string{""}
	} else if lines[len(lines)-1] != "" {
		texts = append(texts, strings.Join(lines, "\n"))
	}
	for _, text := range texts {
		got, code := impl.RunScript(s.shop, text)
		equal(t, strconv.Quote(text), []any{got, code}, []any{answers, int64(impl.OK)})
	}
}

// isScriptAs has the answers as the tests count.
func isScriptAs(t *testing.T, s store, lines []string) {
	t.Helper()
	n, deeds := newCounter(s), allDeeds()
	var want []string
	for _, line := range lines {
		want = append(want, n.answerTo(line, deeds))
	}
	isScript(t, s, lines, want)
}

// dialogue has a line and the answer to it by turns.
func dialogue(t *testing.T, s store, turns ...string) {
	t.Helper()
	var lines, want []string
	for i := 0; i < len(turns); i += 2 {
		lines, want = append(lines, turns[i]), append(want, turns[i+1])
	}
	isScript(t, s, lines, want)
	isScriptAs(t, s, lines)
}

func TestScripts(t *testing.T) {
	s := ofAllWords(1, 2, "R0(xy)", "!y=y", "(R0(xy)&R0(yz))")
	dialogue(t, s)
	dialogue(t, s, "known 0", "0 open", "last 0", "none", "known 1", "0 open", "last 1", "none")
	dialogue(t, s, "ask 0", "ok", "known 0", "0 open", "deliver 0", "ok", "known 0", "0 open", "deliver 0", "ok", "known 0", "2 open", "last 0", "a a",
		"ask 0", "ok", "2*deliver 0", "what", "deliver 0", "ok", "deliver 0", "ok", "last 0", "b b", "known 0", "4 open",
		"ask 0", "ok", "copy 0", "ok", "deliver 1", "ok", "known 0", "5 done", "last 0", "- b", "ask 0", "error state", "deliver 1", "error range", "deliver 0", "ok", "copy 0", "ok",
		"known 0", "5 done", "crash 0", "ok", "known 0", "0 open", "last 0", "none", "deliver 0", "ok", "known 0", "0 open", "deliver 0", "error range")
	dialogue(t, s, "ask 1", "ok", "deliver 0", "ok", "known 1", "0 open", "copy 0", "ok", "known 1", "0 done", "last 1", "none", "crash 1", "ok", "known 1", "0 open",
		"deliver 0", "ok", "known 1", "0 done", "save 1", "ok", "crash 1", "ok", "known 1", "0 done", "ask 1", "error state")
	dialogue(t, s, "ask 2", "ok", "deliver 0", "ok", "deliver 0", "ok", "last 2", "a a a", "save 2", "ok", "ask 2", "ok", "deliver 0", "ok", "deliver 0", "ok", "last 2", "- - a", "known 2", "4 open",
		"crash 2", "ok", "last 2", "a a a", "known 2", "2 open")
	one := ofAllWords(1, 1, "x=x", "R0(zx)")
	dialogue(t, one, "ask 0", "ok", "deliver 0", "ok", "deliver 0", "ok", "last 0", "-", "ask 0", "ok", "deliver 0", "ok", "deliver 0", "ok", "last 0", "a",
		"ask 1", "ok", "deliver 0", "ok", "deliver 0", "ok", "last 1", "- -")
	dialogue(t, ofAllWords(1, 3, "R0(zx)"), "ask 0", "ok", "deliver 0", "ok", "deliver 0", "ok", "last 0", "b b", "ask 0", "ok", "deliver 0", "ok", "deliver 0", "ok", "last 0", "b -", "known 0", "5 done")
}

func TestLinesOfScripts(t *testing.T) {
	s := ofAllWords(1, 2, "R0(xy)", "x=x")
	for text, want := range map[string]string{
		"": "", "\n": "what\n", "\n\n": "what\nwhat\n", "\n\n\n": "what\nwhat\nwhat\n", "ask 0": "ok\n", "ask 0\n": "ok\n", "ask 0\n\n": "ok\nwhat\n",
		"\nask 0": "what\nok\n", "ask 0\n\nask 0": "ok\nwhat\nok\n", "ask 0\nask 0": "ok\nok\n", "ask 0\r\nask 0\r\n": "what\nwhat\n", " ": "what\n", "ask 0\x00": "what\n",
		"known 0\nlast 0": "0 open\nnone\n", "known 0 known 0": "what\n", "ask 0;ask 0": "what\n",
	} {
		got, code := impl.RunScript(s.shop, text)
		equal(t, strconv.Quote(text), []any{got, code}, []any{want, int64(impl.OK)})
	}
}

// Texts that are nearly those of deeds or questions are answered "what", and do
// nothing.
func TestLinesThatAreNearlyDeeds(t *testing.T) {
	s := ofAllWords(1, 2, "R0(xy)", "x=x")
	lines := []string{"known 2", "known 3", "known 4", "known 999", "known 1000", "known -1", "known -0", "known +0", "known 00", "known 01", "known", "known ", "known  0", " known 0", "known 0 ", "known 0 0",
		"known\t0", "known x", "Known 0", "knowns 0", "know 0", "known0", "known 99999999999999999999", "known 9223372036854775808", "known 4294967296", "known 0x0", "known 0.0", "known 0\r",
		"last 2", "last 4", "last 999", "last -1", "last -0", "last +0", "last 00", "last", "last ", "last  0", " last 0", "last 0 ", "last 0 0", "Last 0", "las 0", "lasts 0", "last 18446744073709551616",
		"none", "ok", "what", "open", "done", "error range", "0 open", "hello", "finish 0", "read 0", "-", "ä", "\x00", "known 0\x00"}
	for _, text := range nearlyDeeds() {
		if !strings.Contains(text, "\n") && len(text) < 1000 && text != "known 0" && text != "last 0" {
			lines = append(lines, text)
		}
	}
	for part := range slices.Chunk(lines, impl.MaxScriptLines-2) {
		script := slices.Concat([]string{"ask 0"}, part, []string{"drop 1"})
		want := slices.Concat([]string{"ok"}, slices.Repeat([]string{"what"}, len(part)), []string{"error range"})
		isScript(t, s, script, want)
	}
}

func TestLimitsOfScripts(t *testing.T) {
	s := ofAllWords(1, 2, "R0(xy)")
	isRun := func(text string, want string, code int64) {
		t.Helper()
		got, told := impl.RunScript(s.shop, text)
		equal(t, "script", []any{got, told}, []any{want, code})
	}
	wire := strings.Repeat("ok\n", 12) + strings.Repeat("error limit\n", 108)
	isRun(strings.Repeat("ask 0\n", 120), wire, impl.OK)
	isRun(strings.TrimSuffix(strings.Repeat("ask 0\n", 120), "\n"), wire, impl.OK)
	isRun(strings.Repeat("ask 0\n", 121), "", impl.ErrRange)
	isRun(strings.Repeat("ask 0\n", 120)+"x", "", impl.ErrRange)
	isRun(strings.Repeat("\n", 119)+"x", strings.Repeat("what\n", 120), impl.OK)
	isRun(strings.Repeat("\n", 120), strings.Repeat("what\n", 120), impl.OK)
	isRun(strings.Repeat("\n", 120)+"x", "", impl.ErrRange)
	isRun(strings.Repeat("\n", 121), "", impl.ErrRange)
	isRun(strings.Repeat("x", 20000), "what\n", impl.OK)
	isRun(strings.Repeat("x", 20001), "", impl.ErrRange)
	isRun(strings.Repeat("x", 19999)+"\n", "what\n", impl.OK)
	isRun(strings.Repeat("x", 20000)+"\n", "", impl.ErrRange)
	isRun("ask 0\n"+strings.Repeat("ä", 9997), "ok\nwhat\n", impl.OK)
	isRun("ask 0\n"+strings.Repeat("ä", 9998), "", impl.ErrRange)
	isRun(strings.Repeat("\n", 1000000), "", impl.ErrRange)
	for _, v := range badShops() {
		for _, text := range []string{"", "ask 0", strings.Repeat("\n", 121), strings.Repeat("x", 20001)} {
			got, code := impl.RunScript(v, text)
			equal(t, "script", []any{got, code}, []any{"", int64(impl.ErrInvalid)})
		}
	}
}

// Known and last are asked before, between and behind random deeds.
func TestRandomScripts(t *testing.T) {
	d := dice(839)
	for _, s := range someStores() {
		for range 30 {
			var lines []string
			for _, text := range deedTexts(randomDeeds(&d, d.below(60))) {
				for d.below(3) == 0 {
					lines = append(lines, []string{"known ", "last "}[d.below(2)]+strconv.Itoa(int(d.below(5))))
				}
				lines = append(lines, text)
			}
			lines = append(lines, "known 0", "last 0")
			isScriptAs(t, s, lines[:min(len(lines), impl.MaxScriptLines)])
		}
	}
}

// A plan that is run as a script makes all readers know all answers.
func TestPlansAsScripts(t *testing.T) {
	for _, s := range someStores() {
		deeds := deedsOf("ask 0, copy 0, deliver 1, ask 0, save 0, crash 0")
		plan, _ := impl.FinishDeeds(s.shop, deeds)
		if len(plan) > 80 {
			continue
		}
		lines := deedTexts(slices.Concat(deeds, plan))
		var want []string
		for _, code := range newCounter(s).doAll(slices.Concat(deeds, plan)) {
			want = append(want, codeText(code))
		}
		equal(t, "the plan is done", slices.Index(want[len(deeds):], "ok"), 0)
		for i := range s.queries {
			answers := s.answers(i)
			lines = append(lines, "known "+strconv.Itoa(i), "crash "+strconv.Itoa(i), "known "+strconv.Itoa(i))
			all := strconv.Itoa(len(answers)) + " done"
			want = append(want, all, "ok", all)
		}
		isScript(t, s, lines, want)
	}
}
