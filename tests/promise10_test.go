package tests

import (
	"fmt"
	"slices"
	"strings"
	"testing"

	"loop.example/g01221/impl"
)

func desk(made int, s ...int) impl.Desk { return impl.Desk{Stack: s, Made: made} }

func sameDesks(a impl.Desk, b impl.Desk) bool {
	return slices.Equal(a.Stack, b.Stack) && a.Made == b.Made
}

// checkLine looks what a line of a desk does: what is not wanted to succeed has
// no desk and no reply.
func checkLine(t *testing.T, d impl.Desk, line string, after impl.Desk, reply string, wantOk bool) {
	t.Helper()
	if !wantOk {
		after, reply = impl.Desk{}, ""
	}
	gotAfter, got, ok := impl.DeskLine(d, line)
	if ok != wantOk || got != reply || !sameDesks(gotAfter, after) {
		t.Errorf("DeskLine of %v and %q is %v, %q, %v, not %v, %q, %v", d, beginning(line), gotAfter, got, ok, after, reply, wantOk)
	}
}

// beginning returns a text, or so much of it that one can read it in a message.
func beginning(text string) string { return text[:min(len(text), 200)] }

// checkScript looks what a text does as a script, or that it is none.
func checkScript(t *testing.T, script string, after impl.Desk, replies []string, failed []int, wantOk bool) {
	t.Helper()
	if !wantOk {
		after = impl.Desk{}
	}
	told := args(beginning(script))
	got, ok := impl.RunScript(script)
	expectList(t, "RunScript", told, got, ok, replies, wantOk)
	gotAfter, ok := impl.DeskAfter(script)
	if ok != wantOk || !sameDesks(gotAfter, after) {
		t.Errorf("DeskAfter of %q is %v, %v, not %v, %v", told, gotAfter, ok, after, wantOk)
	}
	gotFailed, ok := impl.FailedLines(script)
	expectList(t, "FailedLines", told, gotFailed, ok, failed, wantOk)
}

// checkRun holds a text against the model.
func checkRun(t *testing.T, c modelConsole, script string) {
	t.Helper()
	after, replies, failed := c.run(script)
	checkScript(t, script, after, replies, failed, modelIsScript(script))
}

func scriptOf(lines ...string) string {
	script := ""
	for _, line := range lines {
		script += line + "\n"
	}
	return script
}

func TestLimitsOfConsole(t *testing.T) {
	if impl.MaxScript != modelMaxScript || impl.MaxLines != modelMaxLines {
		t.Error("limits", impl.MaxScript, impl.MaxLines)
	}
}

func TestExampleOfConsole(t *testing.T) {
	lines := []string{"gaps", "least", "turn 3", "play 2", "made", "stack 231", "far", "exchanges", "front 1", "burnt 1-2", "turn 4", "fly"}
	replies := []string{"1,3", "3,2", "213", "123", "2", "231", "2", "1", "123", "2,1,2", "no", "what"}
	checkScript(t, scriptOf(lines...), desk(0, 1, 2, 3), replies, []int{11, 12}, true)
	d := impl.FirstDesk()
	for i, line := range lines {
		var reply string
		var ok bool
		d, reply, ok = impl.DeskLine(d, line)
		expect(t, "DeskLine", args(line), reply, ok, replies[i], true)
	}
	if !sameDesks(d, desk(0, 1, 2, 3)) {
		t.Error("the desk behind the example is", d)
	}
}

func TestFirstDesk(t *testing.T) {
	for range 2 {
		d := impl.FirstDesk()
		if !sameDesks(d, desk(0, 3, 1, 2)) || !impl.IsDesk(d) {
			t.Error("FirstDesk is", d)
		}
		d.Stack[0] = 7
	}
}

// TestNamedEffects has each line of the table that changes a desk.
func TestNamedEffects(t *testing.T) {
	first, sorted := desk(5, 3, 1, 2), desk(7, 1, 2, 3)
	nine := desk(0, 9, 8, 7, 6, 5, 4, 3, 2, 1)
	for _, c := range []struct {
		d     impl.Desk
		line  string
		after impl.Desk
		reply string
	}{
		{first, "stack 231", desk(0, 2, 3, 1), "231"},
		{first, "stack 312", desk(0, 3, 1, 2), "312"},
		{first, "stack 1", desk(0, 1), "1"},
		{first, "stack 987654321", nine, "987654321"},
		{nine, "stack 21", desk(0, 2, 1), "21"},
		{first, "turn 1", desk(6, 3, 1, 2), "312"},
		{first, "turn 2", desk(6, 1, 3, 2), "132"},
		{first, "turn 3", desk(6, 2, 1, 3), "213"},
		{nine, "turn 9", desk(1, 1, 2, 3, 4, 5, 6, 7, 8, 9), "123456789"},
		{nine, "turn 4", desk(1, 6, 7, 8, 9, 5, 4, 3, 2, 1), "678954321"},
		{first, "play 32", desk(7, 1, 2, 3), "123"},
		{first, "play 23", desk(7, 2, 3, 1), "231"},
		{first, "play 1", desk(6, 3, 1, 2), "312"},
		{first, "play 111", desk(8, 3, 1, 2), "312"},
		{first, "play 3", desk(6, 2, 1, 3), "213"},
		{first, "play " + strings.Repeat("3", 40), desk(45, 3, 1, 2), "312"},
		{first, "play " + strings.Repeat("3", 39), desk(44, 2, 1, 3), "213"},
		{nine, "play 99", desk(2, 9, 8, 7, 6, 5, 4, 3, 2, 1), "987654321"},
		{first, "top", desk(7, 1, 2, 3), "123"},
		{sorted, "top", sorted, "123"},
		{desk(0, 2, 4, 1, 3), "top", desk(4, 1, 2, 3, 4), "1234"},
		{desk(9, 1, 3, 2), "top", desk(9, 1, 3, 2), "132"},
		{nine, "top", desk(1, 1, 2, 3, 4, 5, 6, 7, 8, 9), "123456789"},
		{first, "move 1 3", desk(5, 1, 2, 3), "123"},
		{first, "move 3 1", desk(5, 2, 3, 1), "231"},
		{first, "move 2 1", desk(5, 1, 3, 2), "132"},
		{first, "move 2 2", first, "312"},
		{nine, "move 1 9", desk(0, 8, 7, 6, 5, 4, 3, 2, 1, 9), "876543219"},
		{first, "front 1", desk(5, 1, 3, 2), "132"},
		{first, "front 2", desk(5, 2, 3, 1), "231"},
		{first, "front 3", first, "312"},
		{nine, "front 1", desk(0, 1, 9, 8, 7, 6, 5, 4, 3, 2), "198765432"},
	} {
		checkLine(t, c.d, c.line, c.after, c.reply, true)
	}
}

// TestNamedQuestions has each line of the table that leaves a desk as it is.
func TestNamedQuestions(t *testing.T) {
	words := []string{"show", "made", "gaps", "greedy", "least", "far", "steps", "breaks", "blocks", "exchanges", "rising"}
	for _, c := range []struct {
		d       impl.Desk
		replies []string
	}{
		{desk(5, 3, 1, 2), []string{"312", "5", "1,3", "3,2", "3,2", "2", "2", "0,1,3", "1", "1", "1,2"}},
		{desk(1000000, 1, 2, 3), []string{"123", "1000000", "-", "-", "-", "0", "0", "-", "0", "0", "1,2,3"}},
		{desk(0, 1), []string{"1", "0", "-", "-", "-", "0", "0", "-", "0", "0", "1"}},
		{desk(10, 2, 1), []string{"21", "10", "2", "2", "2", "1", "1", "0,2", "1", "1", "1"}},
		{desk(0, 1, 3, 2), []string{"132", "0", "1,3", "2,3,2", "2,3,2", "3", "0", "1,3", "1", "1", "1,2"}},
		{desk(3, 3, 2, 1), []string{"321", "3", "3", "3", "3", "1", "1", "0,3", "2", "1", "1"}},
		{desk(12, 2, 4, 1, 3), []string{"2413", "12", "1,2,3,4", "2,4,3,2", "2,4,3,2", "4", "4", "0,1,2,3,4", "2", "2", "1,3"}},
		{desk(0, 7, 6, 5, 4, 3, 2, 1), []string{"7654321", "0", "7", "7", "7", "1", "1", "0,7", "3", "3", "1"}},
		{desk(0, 8, 7, 6, 5, 4, 3, 2, 1), []string{"87654321", "0", "8", "8", "no", "no", "1", "0,8", "3", "4", "1"}},
		{desk(0, 1, 2, 3, 4, 5, 6, 7, 8, 9), []string{"123456789", "0", "-", "-", "no", "no", "0", "-", "0", "0", "1,2,3,4,5,6,7,8,9"}},
	} {
		for i, word := range words {
			checkLine(t, c.d, word, c.d, c.replies[i], true)
		}
	}
}

func TestNamedCostsAndBurntStacks(t *testing.T) {
	first, one := desk(5, 3, 1, 2), desk(0, 1)
	for _, c := range []struct {
		d           impl.Desk
		line, reply string
	}{
		{first, "cost 3", "1"},
		{first, "cost 1", "2"},
		{first, "cost 22", "4"},
		{first, "cost 312", "6"},
		{first, "cost 213", "9"},
		{first, "cost " + strings.Repeat("2", 60), "62"},
		{one, "cost 1", "1"},
		{one, "cost 111", "3"},
		{one, "cost " + strings.Repeat("1", 60), "60"},
		{desk(0, 1, 2, 3, 4, 5, 6, 7, 8, 9), "cost 99", "10"},
		{first, "burnt 1", "-"},
		{first, "burnt -1", "1"},
		{first, "burnt 12", "-"},
		{first, "burnt 1-2", "2,1,2"},
		{first, "burnt -1-2", "1,2,1,2"},
		{first, "burnt 312", "1,3,2"},
		{one, "burnt -2-1", "2"},
		{one, "burnt 12345", "-"},
		{one, "burnt -5-4-3-2-1", "5"},
		{one, "burnt 54321", "4,5,4,5,4,5,4,5,4"},
	} {
		checkLine(t, c.d, c.line, c.d, c.reply, true)
	}
}

// TestConsoleOfOnePancake has what each line of the table makes of a stack of one pancake.
func TestConsoleOfOnePancake(t *testing.T) {
	one := desk(3, 1)
	for _, c := range []struct {
		line  string
		made  int
		reply string
	}{
		{"turn 1", 4, "1"}, {"turn 0", 3, "no"}, {"turn 2", 3, "no"},
		{"play 1", 4, "1"}, {"play 1111", 7, "1"}, {"play 12", 3, "no"}, {"play " + strings.Repeat("1", 40), 43, "1"}, {"play " + strings.Repeat("1", 41), 3, "no"},
		{"top", 3, "1"}, {"move 1 1", 3, "1"}, {"move 1 2", 3, "no"}, {"move 2 1", 3, "no"}, {"front 1", 3, "1"}, {"front 2", 3, "no"},
		{"show", 3, "1"}, {"made", 3, "3"}, {"gaps", 3, "-"}, {"greedy", 3, "-"}, {"least", 3, "-"}, {"far", 3, "0"}, {"steps", 3, "0"},
		{"breaks", 3, "-"}, {"blocks", 3, "0"}, {"exchanges", 3, "0"}, {"rising", 3, "1"}, {"cost 1", 3, "1"}, {"cost 2", 3, "no"}, {"burnt -1", 3, "1"},
		{"stack 1", 0, "1"},
	} {
		checkLine(t, one, c.line, desk(c.made, 1), c.reply, true)
	}
}

// TestLinesWhoseFunctionFails has a line for each function that can fail.
func TestLinesWhoseFunctionFails(t *testing.T) {
	first, eight, nine := desk(5, 3, 1, 2), desk(0, 2, 1, 3, 4, 5, 6, 7, 8), desk(1, 2, 1, 3, 4, 5, 6, 7, 8, 9)
	for _, c := range []struct {
		d     impl.Desk
		lines []string
	}{
		{first, []string{"turn 0", "turn 4", "turn 9", "turn 10", "turn 999999"}},
		{first, []string{"play 4", "play 9", "play 14", "play 41", "play 2342", "play " + strings.Repeat("1", 41), "play " + strings.Repeat("1", 2995)}},
		{first, []string{"move 0 0", "move 0 1", "move 1 0", "move 4 1", "move 1 4", "move 4 4", "move 999999 1", "move 1 999999"}},
		{first, []string{"front 0", "front 4", "front 10", "front 999999"}},
		{first, []string{"burnt 123456", "burnt -1-2-3-4-5-6", "burnt 123456789", "burnt -9-8-7-6-5-4-3-2-1"}},
		{first, []string{"cost 4", "cost 34", "cost 43", "cost 9", "cost " + strings.Repeat("1", 61), "cost " + strings.Repeat("1", 2995)}},
		{eight, []string{"least", "far", "turn 9", "front 9", "move 9 1"}},
		{nine, []string{"least", "far", "turn 10", "front 10", "move 1 10", "play " + strings.Repeat("9", 41)}},
	} {
		for _, line := range c.lines {
			checkLine(t, c.d, line, c.d, "no", true)
		}
	}
}

// TestLinesThatAreNone has also the lines of the table with words that are none.
func TestLinesThatAreNone(t *testing.T) {
	for _, d := range []impl.Desk{desk(5, 3, 1, 2), desk(0, 1), desk(modelMaxMade, 2, 1), desk(1, 9, 8, 7, 6, 5, 4, 3, 2, 1)} {
		for _, line := range whatLines() {
			checkLine(t, d, line, d, "what", true)
		}
	}
}

// TestNumbersOfLines has the least and the greatest number, which are numbers
// also where the function fails.
func TestNumbersOfLines(t *testing.T) {
	d := desk(5, 3, 1, 2)
	for _, number := range []string{"0", "10", "100", "41", "99999", "100000", "999998", "999999"} {
		for _, line := range []string{"turn " + number, "front " + number, "move " + number + " 1", "move 1 " + number, "move " + number + " " + number} {
			checkLine(t, d, line, d, "no", true)
		}
	}
	for _, number := range noNumbers() {
		for _, line := range []string{"turn " + number, "front " + number, "move " + number + " 1", "move 1 " + number, "move " + number + " 999999"} {
			checkLine(t, d, line, d, "what", true)
		}
	}
}

// TestMostTurnsMade has desks near the greatest Made.
func TestMostTurnsMade(t *testing.T) {
	plan40 := "play " + strings.Repeat("3", 40)
	for _, c := range []struct {
		made  int
		line  string
		after impl.Desk
		reply string
	}{
		{999998, "turn 3", desk(999999, 2, 1, 3), "213"},
		{999999, "turn 3", desk(1000000, 2, 1, 3), "213"},
		{1000000, "turn 3", desk(1000000, 3, 1, 2), "no"},
		{1000000, "turn 1", desk(1000000, 3, 1, 2), "no"},
		{1000000, "turn 4", desk(1000000, 3, 1, 2), "no"},
		{999998, "play 32", desk(1000000, 1, 2, 3), "123"},
		{999999, "play 32", desk(999999, 3, 1, 2), "no"},
		{999999, "play 3", desk(1000000, 2, 1, 3), "213"},
		{1000000, "play 1", desk(1000000, 3, 1, 2), "no"},
		{999960, plan40, desk(1000000, 3, 1, 2), "312"},
		{999961, plan40, desk(999961, 3, 1, 2), "no"},
		{999998, "top", desk(1000000, 1, 2, 3), "123"},
		{999999, "top", desk(999999, 3, 1, 2), "no"},
		{1000000, "top", desk(1000000, 3, 1, 2), "no"},
		{1000000, "move 1 3", desk(1000000, 1, 2, 3), "123"},
		{1000000, "front 2", desk(1000000, 2, 3, 1), "231"},
		{1000000, "stack 312", desk(0, 3, 1, 2), "312"},
		{1000000, "made", desk(1000000, 3, 1, 2), "1000000"},
		{1000000, "steps", desk(1000000, 3, 1, 2), "2"},
		{1000000, "turn 01", desk(1000000, 3, 1, 2), "what"},
	} {
		checkLine(t, desk(c.made, 3, 1, 2), c.line, c.after, c.reply, true)
	}
	home := desk(1000000, 1, 3, 2)
	checkLine(t, home, "top", home, "132", true)
}

// TestLinesByModel holds lines of the table, and some that are none, on all stacks
// of few pancakes and some of each greater number against the model.
func TestLinesByModel(t *testing.T) {
	c := newModelConsole()
	for i, s := range someStacks() {
		lines := slices.Concat(linesFor(len(s)), plainWords())
		if i%10 == 0 {
			lines = slices.Concat(lines, linesForAll(), whatLines())
		}
		for j, line := range lines {
			d := impl.Desk{Stack: s, Made: []int{0, 7, modelMaxMade - 1, modelMaxMade}[(i+j)%4]}
			after, reply := c.line(d, line)
			checkLine(t, d, line, after, reply, true)
		}
	}
}

// TestWordsOfFewBytes has all words of up to three bytes of those that numbers,
// texts of stacks and lists have, and of some that they have not.
func TestWordsOfFewBytes(t *testing.T) {
	c := newModelConsole()
	words := []string{""}
	for from, length := 0, 1; length <= 3; length++ {
		to := len(words)
		for _, word := range words[from:to] {
			for _, letter := range "01239-+, x" {
				words = append(words, word+string(letter))
			}
		}
		from = to
	}
	d := desk(5, 3, 1, 2)
	for _, word := range words {
		for _, form := range []string{"stack ?", "turn ?", "play ?", "move ? 1", "move 1 ?", "front ?", "burnt ?", "cost ?", "?", "gaps?", "top ?"} {
			line := strings.Replace(form, "?", word, 1)
			after, reply := c.line(d, line)
			checkLine(t, d, line, after, reply, true)
		}
	}
}

// TestLinesWithOtherBytes changes, adds and takes away each byte of lines of the table.
func TestLinesWithOtherBytes(t *testing.T) {
	c := newModelConsole()
	d := desk(5, 3, 1, 2)
	for _, line := range append(plainWords(), "stack 231", "turn 3", "play 32", "move 1 3", "front 2", "burnt 1-2", "cost 12") {
		for at := range len(line) + 1 {
			var others []string
			for b := range 256 {
				if b == '\n' {
					continue
				}
				others = append(others, line[:at]+string([]byte{byte(b)})+line[at:])
				if at < len(line) {
					others = append(others, line[:at]+string([]byte{byte(b)})+line[at+1:], line[:at]+line[at+1:])
				}
			}
			for _, other := range others {
				after, reply := c.line(d, other)
				checkLine(t, d, other, after, reply, true)
			}
		}
	}
}

// listReply and numberReply are the replies to questions by what calls return.
func listReply(list []int, ok bool) string {
	if !ok {
		return "no"
	}
	return modelListText(list)
}

func numberReply(number int, ok bool) string {
	if !ok {
		return "no"
	}
	return fmt.Sprint(number)
}

// TestQuestionsDoWhatTheirCallsDo holds replies against the calls that the table names.
func TestQuestionsDoWhatTheirCallsDo(t *testing.T) {
	for _, s := range someStacks() {
		d := impl.Desk{Stack: s, Made: len(s)}
		text, _ := impl.StackText(s)
		for line, reply := range map[string]string{
			"show":      text,
			"made":      numberReply(len(s), true),
			"gaps":      listReply(impl.GapsOf(s)),
			"greedy":    listReply(impl.GreedyPlan(s)),
			"least":     listReply(impl.LeastPlan(s)),
			"far":       numberReply(impl.StackDistance(s)),
			"steps":     numberReply(impl.TopSteps(s)),
			"breaks":    listReply(impl.BreakPoints(s)),
			"blocks":    numberReply(impl.BlockBound(s)),
			"exchanges": numberReply(impl.ExchangeDistance(s)),
			"rising":    listReply(impl.LongestRising(s)),
		} {
			checkLine(t, d, line, d, reply, true)
		}
		for _, asked := range [][]int{s, {1}, {len(s), 1, 1}, {len(s)%9 + 1}, climbing(len(s), 60), climbing(len(s), 61)} {
			checkLine(t, d, "cost "+modelText(asked), d, numberReply(impl.ShelfCost(s, asked, impl.RuleFront)), true)
		}
	}
	for _, burnt := range someBurnts() {
		text, _ := impl.BurntText(burnt)
		checkLine(t, impl.FirstDesk(), "burnt "+text, impl.FirstDesk(), listReply(impl.LeastBurnt(burnt)), true)
	}
}

func checkEffect(t *testing.T, d impl.Desk, line string, s []int, turns int, ok bool) {
	t.Helper()
	after, reply := d, "no"
	if ok {
		after = impl.Desk{Stack: s, Made: d.Made + turns}
		reply, _ = impl.StackText(s)
	}
	checkLine(t, d, line, after, reply, true)
}

// TestEffectsDoWhatTheirCallsDo holds effects against the calls that the table names.
func TestEffectsDoWhatTheirCallsDo(t *testing.T) {
	for _, s := range someStacks() {
		n := len(s)
		d := impl.Desk{Stack: s, Made: 10 * n}
		for k := 0; k <= n+1; k++ {
			after, ok := impl.TurnStack(s, k)
			checkEffect(t, d, fmt.Sprint("turn ", k), after, 1, ok)
			after, ok = impl.ShelfAfter(s, []int{k}, impl.RuleFront)
			checkEffect(t, d, fmt.Sprint("front ", k), after, 0, ok)
			for to := 0; to <= n+1; to++ {
				after, ok := impl.MoveOne(s, impl.Insertion{From: k, To: to})
				checkEffect(t, d, fmt.Sprint("move ", k, " ", to), after, 0, ok)
			}
		}
		for _, plan := range [][]int{{n}, {1, n}, {n, 1}, {n%9 + 1}, climbing(n, 40), climbing(n, 41)} {
			after, ok := impl.PlayPlan(s, plan)
			checkEffect(t, d, "play "+modelText(plan), after, len(plan), ok)
		}
		end, ok := impl.TopEnd(s)
		steps, _ := impl.TopSteps(s)
		checkEffect(t, d, "top", end, steps, ok)
		text, _ := impl.StackText(s)
		checkLine(t, impl.FirstDesk(), "stack "+text, impl.Desk{Stack: s}, text, true)
	}
}

// goodDesks are desks with the least and the greatest Made.
func goodDesks() []impl.Desk {
	var desks []impl.Desk
	for _, s := range shelvesForAsking() {
		for _, made := range []int{0, 1, 5000, modelMaxMade - 1, modelMaxMade} {
			desks = append(desks, impl.Desk{Stack: s, Made: made})
		}
	}
	return desks
}

// badDesks are desks that are none: by their stack, by their Made, or by both.
func badDesks() []impl.Desk {
	var desks []impl.Desk
	for _, s := range append(noStacks(), []int{1}, []int{3, 1, 2}, modelSorted(9)) {
		for _, made := range []int{-1, -1000000, modelMaxMade + 1, 1 << 32, minInt, maxInt} {
			desks = append(desks, impl.Desk{Stack: s, Made: made})
		}
	}
	for _, s := range noStacks() {
		desks = append(desks, impl.Desk{Stack: s}, impl.Desk{Stack: s, Made: modelMaxMade})
	}
	return desks
}

func TestDesksAreTold(t *testing.T) {
	for _, d := range goodDesks() {
		if !impl.IsDesk(d) || !modelIsDesk(d) {
			t.Error(d, "is told to be no desk")
		}
	}
	for _, d := range badDesks() {
		if impl.IsDesk(d) || modelIsDesk(d) {
			t.Error(d, "is told to be a desk")
		}
	}
}

func TestDesksThatAreNone(t *testing.T) {
	for _, d := range badDesks() {
		for _, line := range []string{"", "stack 312", "show", "made", "top", "turn 1", "turn 0", "burnt 1-2", "fly", "show\n"} {
			checkLine(t, d, line, impl.Desk{}, "", false)
		}
	}
}

// TestLinesOfMostBytes has lines of MaxScript bytes and of more, and with newlines.
func TestLinesOfMostBytes(t *testing.T) {
	d := desk(5, 3, 1, 2)
	for _, line := range []string{"", " ", "x", "\x00", "\xff"} {
		long := line + strings.Repeat("y", modelMaxScript-len(line))
		checkLine(t, d, long, d, "what", true)
		checkLine(t, d, long+"y", impl.Desk{}, "", false)
	}
	for _, start := range []string{"play ", "cost "} {
		long := start + strings.Repeat("1", modelMaxScript-len(start))
		checkLine(t, d, long[:modelMaxScript-1], d, "no", true)
		checkLine(t, d, long, d, "no", true)
		checkLine(t, d, long+"1", impl.Desk{}, "", false)
		checkLine(t, d, long+"\n", impl.Desk{}, "", false)
	}
	checkLine(t, d, strings.Repeat(" ", modelMaxScript+1), impl.Desk{}, "", false)
	checkLine(t, d, strings.Repeat("1", 1000000), impl.Desk{}, "", false)
	for _, line := range []string{"\n", "show\n", "\nshow", "sho\nw", "show\nshow", "turn\n2", "turn 2\n", "\n\n", " \n", "fly\n", "stack 312\n\n", strings.Repeat("x", modelMaxScript-1) + "\n", strings.Repeat("\n", modelMaxScript)} {
		checkLine(t, d, line, impl.Desk{}, "", false)
	}
}

func TestScriptWithoutALine(t *testing.T) {
	checkScript(t, "", desk(0, 3, 1, 2), nil, nil, true)
}

func TestNamedScripts(t *testing.T) {
	for _, c := range []struct {
		lines   []string
		after   impl.Desk
		replies []string
		failed  []int
	}{
		{[]string{"show"}, desk(0, 3, 1, 2), []string{"312"}, nil},
		{[]string{""}, desk(0, 3, 1, 2), []string{"what"}, []int{1}},
		{[]string{"", "", "made", ""}, desk(0, 3, 1, 2), []string{"what", "what", "0", "what"}, []int{1, 2, 4}},
		{[]string{"turn 2", "turn 4", "turn 3", "made"}, desk(2, 2, 3, 1), []string{"132", "no", "231", "2"}, []int{2}},
		{[]string{"top", "made", "top", "made"}, desk(2, 1, 2, 3), []string{"123", "2", "123", "2"}, nil},
		{[]string{"play 23", "stack 21", "made", "turn 2", "made"}, desk(1, 1, 2), []string{"231", "21", "0", "12", "1"}, nil},
		{[]string{"turn 3", "move 1 3", "front 2", "made"}, desk(1, 2, 1, 3), []string{"213", "132", "213", "1"}, nil},
		{[]string{"stack 12345678", "far", "stack 1234567", "far"}, desk(0, 1, 2, 3, 4, 5, 6, 7), []string{"12345678", "no", "1234567", "0"}, []int{2}},
		{[]string{"turn 2", "stack 11", "show", "stack 4", "show"}, desk(1, 1, 3, 2), []string{"132", "what", "132", "what", "132"}, []int{2, 4}},
		{[]string{"SHOW", "show\r", "show ", "show"}, desk(0, 3, 1, 2), []string{"what", "what", "what", "312"}, []int{1, 2, 3}},
	} {
		checkScript(t, scriptOf(c.lines...), c.after, c.replies, c.failed, true)
	}
}

// TestScriptsOfMostLines has scripts of MaxLines lines, one less and one more.
func TestScriptsOfMostLines(t *testing.T) {
	c := newModelConsole()
	for _, line := range []string{"turn 3\n", "\n", "turn 0\n", "show\n", " \n"} {
		for _, lines := range []int{modelMaxLines - 1, modelMaxLines, modelMaxLines + 1, 2 * modelMaxLines} {
			checkRun(t, c, strings.Repeat(line, lines))
		}
	}
	checkScript(t, strings.Repeat("turn 3\n", 50), desk(50, 3, 1, 2), slices.Repeat([]string{"213", "312"}, 25), nil, true)
	checkScript(t, strings.Repeat("\n", 50), desk(0, 3, 1, 2), slices.Repeat([]string{"what"}, 50), climbing(50, 50), true)
	checkScript(t, strings.Repeat("\n", 51), impl.Desk{}, nil, nil, false)
}

// TestScriptsOfMostBytes has scripts of MaxScript bytes, one less and one more:
// many lines, or one of nearly as many bytes.
func TestScriptsOfMostBytes(t *testing.T) {
	c := newModelConsole()
	plan := "play " + strings.Repeat("23", 20) + "\n"
	whole := strings.Repeat(plan, 49)
	last := strings.Repeat("x", modelMaxScript-len(whole)-1) + "\n"
	for _, script := range []string{
		whole + last,
		last + whole,
		strings.Repeat(strings.Repeat("1", 59)+"\n", 50),
		strings.Repeat("cost "+strings.Repeat("1", 54)+"\n", 50),
		strings.Repeat("x", modelMaxScript-1) + "\n",
		"cost " + strings.Repeat("1", modelMaxScript-6) + "\n",
		strings.Repeat(" ", modelMaxScript-1) + "\n",
		strings.Repeat("x", modelMaxScript-2) + "\n\n",
		"\n" + strings.Repeat("x", modelMaxScript-2) + "\n",
	} {
		if len(script) != modelMaxScript {
			t.Error("a script has", len(script), "bytes")
		}
		checkRun(t, c, script)
		checkRun(t, c, script[1:])
		checkScript(t, "1"+script, impl.Desk{}, nil, nil, false)
		checkScript(t, script[:modelMaxScript-1]+"1\n", impl.Desk{}, nil, nil, false)
		checkScript(t, script+"\n", impl.Desk{}, nil, nil, false)
		checkScript(t, strings.TrimRight(script, "\n"), impl.Desk{}, nil, nil, false)
	}
	got, ok := impl.DeskAfter(whole + last)
	expect(t, "the turns of DeskAfter", args("49 plans"), got.Made, ok, 49*modelMaxPlan, true)
}

func TestTextsThatAreNoScript(t *testing.T) {
	for _, text := range []string{
		"show", "show\nshow", "\nshow", "show\n ", "\n ", " ", "x", "\r", "\x00", "show\r", "show\n\x00", "show\\n", strings.Repeat("show\n", 49) + "show", strings.Repeat("show\n", 50) + "x",
		strings.Repeat("\n", 51), strings.Repeat("show\n", 51), strings.Repeat("\n", 3000), strings.Repeat("\n", 3001), strings.Repeat("x", 3000), strings.Repeat("x", 3000) + "\n", strings.Repeat("x\n", 1000000),
	} {
		checkScript(t, text, impl.Desk{}, nil, nil, false)
	}
}

// linesForScripts are lines with effects, questions, lines that fail and lines that are none.
func linesForScripts() []string {
	return []string{
		"stack 2413", "turn 3", "show", "turn 4", "play 32", "made", "top", "", "move 3 1", "gaps", "front 2", "least", "stack 1", "play 1111", "fly", "far", "burnt 1-2",
		"stack 987654321", "steps", "turn 9", "breaks", "stack 31", "blocks", "cost 121", "exchanges", "front 9", "rising", "greedy", "turn 02", "burnt 123456", "stack 312",
	}
}

func TestShortScripts(t *testing.T) {
	c := newModelConsole()
	lines := linesForScripts()
	for _, a := range lines {
		checkRun(t, c, scriptOf(a))
		for _, b := range lines {
			checkRun(t, c, scriptOf(a, b))
			for i := range 6 {
				checkRun(t, c, scriptOf(a, b, lines[(i*5+len(a)+len(b))%len(lines)]))
			}
		}
	}
}

// TestLongScripts goes through the lines in many orders.
func TestLongScripts(t *testing.T) {
	c := newModelConsole()
	lines := linesForScripts()
	for stride := 1; stride < len(lines); stride++ {
		for from := range lines {
			script := ""
			for i := range 1 + (from*stride)%modelMaxLines {
				script += lines[(from+i*stride)%len(lines)] + "\n"
			}
			checkRun(t, c, script)
		}
	}
}

// TestScriptsAreTheirLines executes the lines of a script one after the other.
func TestScriptsAreTheirLines(t *testing.T) {
	lines := linesForScripts()
	for from := range lines {
		order := slices.Concat(lines[from:], lines[:from])
		d := impl.FirstDesk()
		var replies []string
		var failed []int
		for i, line := range order {
			var reply string
			var ok bool
			d, reply, ok = impl.DeskLine(d, line)
			if !ok || !impl.IsDesk(d) {
				t.Errorf("DeskLine of %q is %v, %v", line, d, ok)
			}
			replies = append(replies, reply)
			if reply == "no" || reply == "what" {
				failed = append(failed, i+1)
			}
			checkScript(t, scriptOf(order[:i+1]...), d, replies, failed, true)
		}
	}
}

func TestScriptsThatAllFail(t *testing.T) {
	all := climbing(modelMaxLines, modelMaxLines)
	for _, c := range []struct{ line, reply string }{{"turn 0", "no"}, {"turn", "what"}} {
		replies := slices.Repeat([]string{c.reply}, modelMaxLines)
		checkScript(t, strings.Repeat(c.line+"\n", modelMaxLines), desk(0, 3, 1, 2), replies, all, true)
	}
}
