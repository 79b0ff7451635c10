package tests

import (
	"fmt"
	"regexp"
	"strconv"
	"strings"

	"loop.example/g01221/impl"
)

// The model of chapter 10, said again without the program, as model_test.go does
// for chapter 1: patterns tell which lines are in the table, and the models of the
// other chapters what they do.

const (
	modelMaxScript = 3000
	modelMaxLines  = 50
	modelMaxMade   = 1000000
)

func modelIsDesk(d impl.Desk) bool {
	return modelIsStack(d.Stack) && d.Made >= 0 && d.Made <= modelMaxMade
}

// plainWords are the lines of the table that have one word.
func plainWords() []string {
	return []string{"top", "show", "made", "gaps", "greedy", "least", "far", "steps", "breaks", "blocks", "exchanges", "rising"}
}

// modelConsole has the patterns of the lines by their first words, and the least
// numbers of turns by the numbers of pancakes.
type modelConsole struct {
	patterns   map[string]*regexp.Regexp
	far, burnt []map[modelKey]int
}

func newModelConsole() modelConsole {
	number, plan := ` (0|[1-9][0-9]{0,5})`, ` ([1-9]+)`
	behind := map[string]string{
		"stack": ` ([1-9]{1,9})`, "turn": number, "play": plan, "move": number + number,
		"front": number, "burnt": ` ((?:-?[1-9]){1,9})`, "cost": plan,
	}
	for _, word := range plainWords() {
		behind[word] = ""
	}
	c := modelConsole{patterns: map[string]*regexp.Regexp{}, far: []map[modelKey]int{nil}, burnt: []map[modelKey]int{nil}}
	for word, words := range behind {
		c.patterns[word] = regexp.MustCompile(`^` + word + words + `$`)
	}
	for n := 1; n <= modelMaxSearch; n++ {
		c.far = append(c.far, modelDistances(n))
	}
	for n := 1; n <= modelMaxBurnt; n++ {
		c.burnt = append(c.burnt, modelBurntDistances(n))
	}
	return c
}

// modelDigits returns the numbers of a text of digits with signs.
func modelDigits(text string) []int {
	var digits []int
	sign := 1
	for _, r := range text {
		if r == '-' {
			sign = -1
			continue
		}
		digits = append(digits, sign*int(r-'0'))
		sign = 1
	}
	return digits
}

// told returns the first word of a line and the numbers that the others tell. It
// fails if the line is none of the table.
func (c modelConsole) told(line string) (string, []int, bool) {
	first, _, _ := strings.Cut(line, " ")
	pattern := c.patterns[first]
	if pattern == nil || !pattern.MatchString(line) {
		return "", nil, false
	}
	var told []int
	for _, word := range pattern.FindStringSubmatch(line)[1:] {
		if number, err := strconv.Atoi(word); err == nil && (first == "turn" || first == "move" || first == "front") {
			told = append(told, number)
		} else {
			told = append(told, modelDigits(word)...)
		}
	}
	ok := first != "stack" && first != "burnt" || first == "stack" && modelIsStack(told) || first == "burnt" && modelIsBurnt(told)
	return first, told, ok
}

// modelEffect returns the stack behind an effect and how many turns it makes. It
// fails if the effect does.
func modelEffect(s []int, word string, told []int) ([]int, int, bool) {
	switch word {
	case "turn":
		if isIn(told[0], len(s)) {
			return modelTurn(s, told[0]), 1, true
		}
	case "play":
		if modelIsPlan(len(s), told) {
			return modelPlay(s, told), len(told), true
		}
	case "top":
		game := modelTopGame(s)
		return game[len(game)-1], len(game) - 1, true
	case "move":
		if m := movesOf(told...)[0]; modelIsMove(len(s), m) {
			return modelMoveOne(s, m), 0, true
		}
	case "front":
		if modelAreAsked(s, told) {
			return modelLent(s, told[0], modelFront), 0, true
		}
	}
	return nil, 0, false
}

func modelText(s []int) string { return strings.Trim(strings.ReplaceAll(fmt.Sprint(s), " ", ""), "[]") }

func modelListText(list []int) string {
	if len(list) == 0 {
		return "-"
	}
	return strings.Trim(strings.ReplaceAll(fmt.Sprint(list), " ", ","), "[]")
}

// answer returns the reply to a question about a stack. It fails if there is none.
func (c modelConsole) answer(s []int, word string, told []int) (string, bool) {
	switch word {
	case "gaps":
		return modelListText(modelGaps(s)), true
	case "greedy":
		return modelListText(modelGreedy(s)), true
	case "least":
		if modelIsSearched(s) {
			return modelListText(modelFirstPlan(s, c.far[len(s)])), true
		}
	case "far":
		if modelIsSearched(s) {
			return fmt.Sprint(c.far[len(s)][keyOf(s)]), true
		}
	case "burnt":
		if len(told) <= modelMaxBurnt {
			return modelListText(modelFirstBurnt(told, c.burnt[len(told)])), true
		}
	case "steps":
		return fmt.Sprint(len(modelTopGame(s)) - 1), true
	case "breaks":
		return modelListText(modelBreaks(s)), true
	case "blocks":
		return fmt.Sprint((len(modelBlockBreaks(s)) + 2) / 3), true
	case "exchanges":
		return fmt.Sprint((len(s) + 1 - len(modelCycles(s))) / 2), true
	case "rising":
		return modelListText(modelLongestParts(s, rises)[0]), true
	case "cost":
		if modelAreAsked(s, told) {
			return fmt.Sprint(modelCost(s, told, modelFront)), true
		}
	}
	return "", false
}

// line returns the desk behind a line and the reply.
func (c modelConsole) line(d impl.Desk, line string) (impl.Desk, string) {
	word, told, ok := c.told(line)
	if !ok {
		return d, "what"
	}
	switch word {
	case "stack":
		return impl.Desk{Stack: told}, modelText(told)
	case "show":
		return d, modelText(d.Stack)
	case "made":
		return d, fmt.Sprint(d.Made)
	}
	if reply, ok := c.answer(d.Stack, word, told); ok {
		return d, reply
	}
	after, turns, ok := modelEffect(d.Stack, word, told)
	if !ok || d.Made+turns > modelMaxMade {
		return d, "no"
	}
	return impl.Desk{Stack: after, Made: d.Made + turns}, modelText(after)
}

func modelIsScript(script string) bool {
	endsWell := script == "" || script[len(script)-1] == '\n'
	return endsWell && strings.Count(script, "\n") <= modelMaxLines && len(script) <= modelMaxScript
}

// run returns the desk behind a script, the replies, and the numbers of the lines
// whose reply is no or what.
func (c modelConsole) run(script string) (impl.Desk, []string, []int) {
	d := impl.Desk{Stack: []int{3, 1, 2}}
	var replies []string
	var failed []int
	for script != "" {
		var line, reply string
		line, script, _ = strings.Cut(script, "\n")
		d, reply = c.line(d, line)
		replies = append(replies, reply)
		if reply == "no" || reply == "what" {
			failed = append(failed, len(replies))
		}
	}
	return d, replies, failed
}

// linesForAll returns lines of the table whose words do not depend on how many
// pancakes a stack has.
func linesForAll() []string {
	lines := append(plainWords(), "stack 1", "stack 12", "stack 21", "stack 312", "stack 24135", "stack 7654321", "stack 135792468", "stack 987654321", "turn 1", "play 1", "play 1111", "move 1 1", "front 1", "cost 1", "cost 111")
	for _, burnt := range someBurnts() {
		lines = append(lines, "burnt "+modelBurntText(burnt))
	}
	return lines
}

// linesFor returns lines of the table with numbers in and out of what a stack of
// n pancakes has.
func linesFor(n int) []string {
	var lines []string
	for _, k := range []int{0, 1, 2, 3, n - 1, n, n + 1, 9, 10, 41, 999999} {
		lines = append(lines, fmt.Sprint("turn ", k), fmt.Sprint("front ", k))
		for _, to := range []int{0, 1, (n + 1) / 2, n, n + 1, 999999} {
			lines = append(lines, fmt.Sprint("move ", k, " ", to))
		}
	}
	for _, list := range [][]int{
		{n}, {n, 1}, {1, n}, {n, n}, {min(n+1, 9)}, {n, min(n+1, 9), 1}, {9, 9, 9}, climbing(n, 17), climbing(9, 17),
		climbing(n, modelMaxPlan-1), climbing(n, modelMaxPlan), climbing(n, modelMaxPlan+1), repeated(n, modelMaxPlan), repeated(n, modelMaxPlan+1),
		climbing(n, modelMaxAsked-1), climbing(n, modelMaxAsked), climbing(n, modelMaxAsked+1), repeated(n, modelMaxAsked), repeated(1, modelMaxAsked+1), repeated(n, 2000),
	} {
		lines = append(lines, "play "+modelText(list), "cost "+modelText(list))
	}
	return lines
}

// whatLines returns lines of which none is one of the table.
func whatLines() []string {
	lines := []string{
		"", " ", "  ", "   ", "\x00", "\xff", "\t", "\r", "-", "0", "1", "312", "fly", "no", "what", "desk", "plan", "turns", "shows", "sho", "s", "sh ow",
		"stack", "stack ", "stack  ", "stack  312", "stack 312 ", " stack 312", "stack 3 1 2", "stack 3,1,2", "stack 312 312", "stack312", "stack\t312", "stack 0", "stack 2", "stack 11", "stack 13", "stack 122", "stack 3120", "stack 012", "stack -1", "stack +1", "stack 1-2", "stack 1234567890", "stack 12345678910", "stack 312\r", "stack S", "stack x", "stack 31２",
		"turn", "turn ", "turn  ", "turn  2", "turn 2 ", " turn 2", "turn 2 2", "turn2", "turn 2 x", "turn N", "turn x", "turn 2x", "turn x2", "turn\t2", "turn 2\r", "turn ２",
		"play", "play ", "play  ", "play  2", "play 2 ", " play 2", "play 2 3", "play 2,3", "play 0", "play 20", "play 02", "play 203", "play -2", "play 2-3", "play +2", "play P", "play x", "play 2x", "play ２",
		"move", "move ", "move 1", "move 1 ", "move  1", "move 1  2", "move  1 2", "move 1 2 ", " move 1 2", "move 1 2 3", "move 12", "move 1,2", "move I J", "move x 1", "move 1 x", "move\t1 2",
		"front", "front ", "front  2", "front 2 ", " front 2", "front 2 2", "front N", "front x", "front 2,1", "front -",
		"burnt", "burnt ", "burnt  1", "burnt 1 ", " burnt 1", "burnt -", "burnt 1-", "burnt --1", "burnt 1--2", "burnt -1-", "burnt 0", "burnt -0", "burnt 2", "burnt -2", "burnt 11", "burnt 1-1", "burnt 13", "burnt +1", "burnt 1+2", "burnt 1 -2", "burnt 1,-2", "burnt 1-2 1-2", "burnt 1234567890", "burnt -1-2-3-4-5-6-7-8-9-1", "burnt B", "burnt x", "burnt 1-2x",
		"cost", "cost ", "cost  1", "cost 1 ", " cost 1", "cost 1 2", "cost 1,2", "cost 0", "cost 10", "cost 01", "cost -1", "cost P", "cost x",
		strings.Repeat(" ", modelMaxScript), strings.Repeat("x", modelMaxScript), "show" + strings.Repeat(" ", 100), "turn " + strings.Repeat("1", 1000), "stack " + strings.Repeat("1", 1000), "burnt " + strings.Repeat("-1", 1000), "play " + strings.Repeat("1", 1000) + "0",
	}
	for _, word := range plainWords() {
		lines = append(lines, word+" ", " "+word, word+" 1", word+"  ", word+" "+word, word+"1", word+"\r", word+"\x00", strings.ToUpper(word), strings.ToUpper(word[:1])+word[1:], word[:len(word)-1])
	}
	for _, line := range []string{"stack 312", "turn 2", "play 32", "move 1 3", "front 2", "burnt 1-2", "cost 12"} {
		lines = append(lines, strings.ToUpper(line), strings.ToUpper(line[:1])+line[1:], line+" 1", line+" x", line+"  ", "x "+line)
	}
	for _, number := range noNumbers() {
		lines = append(lines, "turn "+number, "front "+number, "move "+number+" 1", "move 1 "+number)
	}
	return lines
}

// noNumbers are words of which none is a number.
func noNumbers() []string {
	return []string{
		"00", "01", "02", "000", "001", "0000002", "0999999", "-0", "-1", "-2", "+0", "+1", "+2", "1000000", "1000001", "9999999", "10000000", "999999999", "4294967297", "9223372036854775807", "9223372036854775808", "-9223372036854775808", "18446744073709551617", "18446744073709551618",
		"1.0", "2.", ".2", "2e0", "1e3", "0x2", "0b1", "0o1", "1_0", "1,0", "2/1", "2x", "x2", "2-", "１", "٢", "½", "1\x00", "\x001", "1\r", "1\t", "\t1", strings.Repeat("0", 1000), strings.Repeat("9", 1000),
	}
}
