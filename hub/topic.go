package hub

const (
	maxTopic  = 24
	maxLevels = 5
)

// CheckTopic tells whether a text is a topic (P3).
func CheckTopic(t string) (Errno, int) {
	if len(t) > maxTopic {
		return ErrLong, 0
	}
	if len(t) == 0 {
		return ErrTopic, 0
	}
	for i := 0; i < len(t); i++ {
		if t[i] != '/' && !isSign(t[i]) {
			return ErrTopic, i
		}
	}
	return OK, 0
}

// CheckFilter tells whether a text is a filter (P3).
func CheckFilter(f string) (Errno, int) {
	if len(f) > maxTopic {
		return ErrLong, 0
	}
	if len(f) == 0 {
		return ErrFilter, 0
	}
	// Whatever a filter begins with is a filter itself (or empty), so the
	// first byte that can't follow the ones ahead of it is the place.
	before := byte('/')
	levels := 1
	for i := 0; i < len(f); i++ {
		if !mayFollow(before, f[i]) {
			return ErrFilter, i
		}
		if f[i] == '/' {
			levels++
		}
		if levels > maxLevels {
			return ErrFilter, i
		}
		before = f[i]
	}
	return OK, 0
}

// mayFollow tells whether a filter may have the byte c right behind the byte
// before. A level's first byte follows a '/', as the filter's first one does.
func mayFollow(before byte, c byte) bool {
	switch before {
	case '#':
		return false
	case '+':
		return c == '/'
	case '/':
		return c == '/' || c == '+' || c == '#' || isSign(c)
	}
	return c == '/' || isSign(c)
}

func isSign(c byte) bool {
	return c >= 'a' && c <= 'z' || c >= '0' && c <= '9' || c == '$'
}

// Match tells whether a filter matches a topic (P4).
func Match(f string, t string) (bool, Errno, int) {
	if len(f) > maxTopic || len(t) > maxTopic {
		return false, ErrLong, 0
	}
	err, place := CheckFilter(f)
	if err != OK {
		return false, err, place
	}
	err, place = CheckTopic(t)
	if err != OK {
		return false, err, place
	}
	return matches(f, t), OK, 0
}

// matches is Match for a filter and a topic that have been checked.
func matches(f string, t string) bool {
	wild := beginsWith(f, '+') || beginsWith(f, '#')
	if wild && beginsWith(t, '$') {
		return false
	}
	// A start behind the text's length says that no level is left: at the
	// length itself there may still be an empty one.
	fStart := 0
	tStart := 0
	for fStart <= len(f) {
		fEnd := levelEnd(f, fStart)
		level := f[fStart:fEnd]
		if level == "#" {
			return true
		}
		if tStart > len(t) {
			return false
		}
		tEnd := levelEnd(t, tStart)
		if level != "+" && level != t[tStart:tEnd] {
			return false
		}
		fStart = fEnd + 1
		tStart = tEnd + 1
	}
	return tStart > len(t)
}

func beginsWith(text string, c byte) bool {
	return len(text) > 0 && text[0] == c
}

// levelEnd answers where the level that starts at start ends. The start is
// from 0 to the text's length, and the answer is not ahead of it.
func levelEnd(text string, start int) int {
	end := start
	for end < len(text) && text[end] != '/' {
		end++
	}
	return end
}
