package hub

import "strconv"

// anyLevel stands for a level that no filter names: it is no row of signs.
const anyLevel = "*"

// starts is how many states a walk may begin in: 0 and 1.
const starts = 2

// thread is a pair on its way along a topic: the filter's levels from the byte
// start on are still to be met. A start behind the filter's length says that
// none is left.
type thread struct {
	filter string
	start  int
	who    int
}

// machine is the states found so far, as they are written in code. A state is
// put in behind all that its edges lead to, so two that answer alike are
// written alike, and the second one is not put in.
type machine struct {
	states []string
}

// codeOf writes the machine whose walks begin with the threads plain, or with
// the threads dollar, if the topic begins with '$'.
//
// There are fewer than 2 to the power of maxPairs states for each count of
// levels that have been met, so fewer than 400 in all; each is written in some
// 40 bytes beside its levels, which come to fewer than 10000 bytes in all: so
// this is code, within maxStates and maxCode.
func codeOf(plain []thread, dollar []thread) string {
	m := machine{states: make([]string, starts)}
	plainEdges := m.writeEdges(plain)
	dollarEdges := m.writeEdges(dollar)
	code := plainEdges + ";" + dollarEdges
	for i := starts; i < len(m.states); i++ {
		code = code + ";" + m.states[i]
	}
	return code
}

// number answers the number of the state that answers as these threads do, or
// noState, if there are none.
func (m *machine) number(live []thread) int {
	if len(live) == 0 {
		return noState
	}
	answer := answerOf(live)
	if allStay(live) {
		return m.putLoop(answer)
	}
	edges := m.writeEdges(live)
	return m.put(answer + edges)
}

// writeEdges writes the edges of the state that these threads are in. It and
// number call each other a few times at most, since each level that is met
// brings each thread that does not stay nearer to its filter's end.
func (m *machine) writeEdges(live []thread) string {
	next := meet(live, anyLevel)
	star := m.number(next)
	text := ""
	for _, level := range levelsOf(live) {
		next = meet(live, level)
		to := m.number(next)
		if to != star {
			text = text + "," + level + ">" + threeDigits(to)
		}
	}
	if star != noState {
		text = text + "*" + threeDigits(star)
	}
	return text
}

// put answers the number of the state that is written so.
func (m *machine) put(text string) int {
	for i := starts; i < len(m.states); i++ {
		if m.states[i] == text {
			return i
		}
	}
	m.states = append(m.states, text)
	return len(m.states) - 1
}

// putLoop answers the number of the state that has this answer and leads to
// itself at every level.
func (m *machine) putLoop(answer string) int {
	for i := starts; i < len(m.states); i++ {
		if m.states[i] == answer+"*"+threeDigits(i) {
			return i
		}
	}
	text := answer + "*" + threeDigits(len(m.states))
	m.states = append(m.states, text)
	return len(m.states) - 1
}

func threeDigits(number int) string {
	text := strconv.Itoa(number)
	for len(text) < 3 {
		text = "0" + text
	}
	return text
}

// leftLevel answers the level that a thread meets next, and whether one is
// left.
func leftLevel(th thread) (string, bool) {
	if th.start > len(th.filter) {
		return "", false
	}
	end := levelEnd(th.filter, th.start)
	return th.filter[th.start:end], true
}

// stays tells whether a thread lives on at whatever comes.
func stays(th thread) bool {
	level, left := leftLevel(th)
	return left && level == "#"
}

func allStay(live []thread) bool {
	for _, th := range live {
		if !stays(th) {
			return false
		}
	}
	return true
}

// meet answers the threads that live on when a level is met.
func meet(live []thread, met string) []thread {
	var next []thread
	for _, th := range live {
		level, left := leftLevel(th)
		if left && (level == "+" || level == met) {
			th.start = th.start + len(level) + 1
			next = append(next, th)
		} else if left && level == "#" {
			next = append(next, th)
		}
	}
	return next
}

// answerOf writes who has a thread that would match, were the topic over.
func answerOf(live []thread) string {
	answer := ""
	for who := 0; who < len(whoLetters); who++ {
		if hasArrived(live, who) {
			answer = answer + whoLetters[who:who+1]
		}
	}
	return answer
}

func hasArrived(live []thread, who int) bool {
	for _, th := range live {
		level, left := leftLevel(th)
		if th.who == who && (!left || level == "#") {
			return true
		}
	}
	return false
}

// levelsOf answers the rows of signs that the threads may meet next, rising,
// each once.
func levelsOf(live []thread) []string {
	var levels []string
	for _, th := range live {
		level, left := leftLevel(th)
		if left && level != "+" && level != "#" {
			levels = insert(levels, level)
		}
	}
	return levels
}

// insert answers the rising texts with one more among them, if it is new.
func insert(texts []string, more string) []string {
	var all []string
	for _, text := range texts {
		if text < more {
			all = append(all, text)
		}
	}
	all = append(all, more)
	for _, text := range texts {
		if text > more {
			all = append(all, text)
		}
	}
	return all
}
