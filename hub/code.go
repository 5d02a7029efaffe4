package hub

const (
	maxCode   = 40000
	maxStates = 1000

	// noState stands where an edge that is not there would lead.
	noState = -1

	// whoLetters has the letter of who at the index who.
	whoLetters = "ABCDEFGHIJKLMNOP"
)

type edge struct {
	level string
	to    int
}

type state struct {
	answer string
	edges  []edge
	star   int
}

// CheckCode tells whether a text is code (P7).
func CheckCode(code string) (Errno, int) {
	if len(code) > maxCode {
		return ErrLong, 0
	}
	pieces := split(code, ';')
	if len(pieces) < 2 {
		return ErrCode, 0
	}
	for i := 0; i < len(pieces) && i < maxStates; i++ {
		s, ok := readState(pieces[i])
		if !ok || !staysBelow(s, len(pieces)) {
			return ErrCode, i
		}
	}
	if len(pieces) > maxStates {
		return ErrCode, maxStates
	}
	return OK, 0
}

// split answers the texts between the separators: one more than there are
// of these.
func split(text string, separator byte) []string {
	var pieces []string
	start := 0
	for i := 0; i < len(text); i++ {
		if text[i] == separator {
			pieces = append(pieces, text[start:i])
			start = i + 1
		}
	}
	return append(pieces, text[start:])
}

// readState reads a state, and tells whether the piece is one.
func readState(piece string) (state, bool) {
	s := state{star: noState}
	at := answerEnd(piece)
	s.answer = piece[:at]
	for at < len(piece) && piece[at] == ',' {
		end := signsEnd(piece, at+1)
		e := edge{level: piece[at+1 : end]}
		e.to = numberBehind(piece, end, '>')
		if e.to == noState || !isAbove(e.level, s.edges) {
			return s, false
		}
		s.edges = append(s.edges, e)
		at = end + 4
	}
	s.star = numberBehind(piece, at, '*')
	if s.star != noState {
		at = at + 4
	}
	return s, at == len(piece)
}

// answerEnd answers where the letters, rising, end with which a piece begins.
func answerEnd(piece string) int {
	end := 0
	before := byte('A' - 1)
	for end < len(piece) && piece[end] > before && piece[end] <= 'P' {
		before = piece[end]
		end++
	}
	return end
}

// signsEnd answers where the signs end that begin at start.
func signsEnd(piece string, start int) int {
	end := start
	for end < len(piece) && isSign(piece[end]) {
		end++
	}
	return end
}

// numberBehind answers the number of three digits behind the mark that stands
// at at, or noState, if there is no such mark and number.
func numberBehind(piece string, at int, mark byte) int {
	if len(piece)-at < 4 || piece[at] != mark {
		return noState
	}
	number := 0
	for i := at + 1; i < at+4; i++ {
		if piece[i] < '0' || piece[i] > '9' {
			return noState
		}
		number = number*10 + int(piece[i]-'0')
	}
	return number
}

// isAbove tells whether the level comes behind the last edge's level.
func isAbove(level string, edges []edge) bool {
	last := len(edges) - 1
	return last < 0 || edges[last].level < level
}

// staysBelow tells whether all edges lead to numbers below count.
func staysBelow(s state, count int) bool {
	for _, e := range s.edges {
		if e.to >= count {
			return false
		}
	}
	return s.star < count
}

// Walk runs code on a topic (P8).
func Walk(code string, t string) ([]int, Errno, int) {
	if len(code) > maxCode || len(t) > maxTopic {
		return nil, ErrLong, 0
	}
	err, place := CheckCode(code)
	if err != OK {
		return nil, err, place
	}
	err, place = CheckTopic(t)
	if err != OK {
		return nil, err, place
	}
	pieces := split(code, ';')
	s := stateAt(pieces, 0)
	if beginsWith(t, '$') {
		s = stateAt(pieces, 1)
	}
	for _, level := range split(t, '/') {
		number := follow(s, level)
		s = stateAt(pieces, number)
	}
	return whoOf(s.answer), OK, 0
}

// stateAt reads the state of that number. Where there is none it is one that
// answers nobody and that no edge leaves, so that a walk stays there.
func stateAt(pieces []string, number int) state {
	if number < 0 || number >= len(pieces) {
		return state{star: noState}
	}
	s, ok := readState(pieces[number])
	if !ok {
		return state{star: noState}
	}
	return s
}

func follow(s state, level string) int {
	for _, e := range s.edges {
		if e.level == level {
			return e.to
		}
	}
	return s.star
}

func whoOf(answer string) []int {
	var all []int
	for i := 0; i < len(answer); i++ {
		all = append(all, int(answer[i])-'A')
	}
	return all
}
