package hub_test

import (
	"fmt"
	"regexp"
	"slices"
	"strconv"
	"strings"
	"testing"

	"hub/hub"
)

// The oracle of code reads it by expressions, where the program goes byte by
// byte.

var (
	oracleStateForm = regexp.MustCompile(`^A?B?C?D?E?F?G?H?I?J?K?L?M?N?O?P?((?:,[a-z0-9$]*>[0-9]{3})*)(?:\*([0-9]{3}))?$`)
	oracleEdgeForm  = regexp.MustCompile(`,([a-z0-9$]*)>([0-9]{3})`)
)

type oracleState struct {
	answer []int
	levels []string
	edges  map[string]int
	star   int
}

// readOracleState answers nil, if the piece is no state.
func readOracleState(piece string) *oracleState {
	parts := oracleStateForm.FindStringSubmatch(piece)
	if parts == nil {
		return nil
	}
	s := &oracleState{edges: map[string]int{}, star: -1}
	for _, c := range strings.TrimRight(strings.SplitN(piece, ",", 2)[0], "*0123456789") {
		s.answer = append(s.answer, int(c-'A'))
	}
	for _, e := range oracleEdgeForm.FindAllStringSubmatch(parts[1], -1) {
		s.levels = append(s.levels, e[1])
		s.edges[e[1]], _ = strconv.Atoi(e[2])
	}
	if parts[2] != "" {
		s.star, _ = strconv.Atoi(parts[2])
	}
	if !slices.IsSorted(s.levels) || len(s.edges) != len(s.levels) {
		return nil
	}
	return s
}

func (s *oracleState) next(level string) int {
	if to, ok := s.edges[level]; ok {
		return to
	}
	return s.star
}

func oracleCheckCode(code string) (hub.Errno, int) {
	if len(code) > 40000 {
		return hub.ErrLong, 0
	}
	pieces := strings.Split(code, ";")
	for i, piece := range pieces {
		if i == 1000 {
			return hub.ErrCode, 1000
		}
		s := readOracleState(piece)
		if s == nil || s.star >= len(pieces) {
			return hub.ErrCode, i
		}
		for _, to := range s.edges {
			if to >= len(pieces) {
				return hub.ErrCode, i
			}
		}
	}
	if len(pieces) < 2 {
		return hub.ErrCode, 0
	}
	return hub.OK, 0
}

// readOracleCode is for code that has been checked.
func readOracleCode(code string) []*oracleState {
	var all []*oracleState
	for _, piece := range strings.Split(code, ";") {
		all = append(all, readOracleState(piece))
	}
	return all
}

func oracleWalk(code string, topic string) []int {
	all := readOracleCode(code)
	at := 0
	if strings.HasPrefix(topic, "$") {
		at = 1
	}
	for _, level := range strings.Split(topic, "/") {
		at = all[at].next(level)
		if at < 0 {
			return nil
		}
	}
	return all[at].answer
}

func TestCheckCodeCases(t *testing.T) {
	for _, c := range []checkCase{
		{";", hub.OK, 0},
		{"ABCDEFGHIJKLMNOP;", hub.OK, 0},
		{"AP;BO", hub.OK, 0},
		{"A,>000,$>000,0>001,9a>001,a>001,a$>001,aa>000,b>001*000;*001", hub.OK, 0},
		{";," + strings.Repeat("z", 1000) + ">000", hub.OK, 0},
		{";;;;;;;;;*009", hub.OK, 0},
		{"", hub.ErrCode, 0},
		{"A", hub.ErrCode, 0},
		{"x", hub.ErrCode, 0},
		{"A,a>000*000", hub.ErrCode, 0},
		{"a;", hub.ErrCode, 0},
		{"Q;", hub.ErrCode, 0},
		{"@;", hub.ErrCode, 0},
		{"AA;", hub.ErrCode, 0},
		{"BA;", hub.ErrCode, 0},
		{"ABA;", hub.ErrCode, 0},
		{";PA", hub.ErrCode, 1},
		{";A ", hub.ErrCode, 1},
		{" ;", hub.ErrCode, 0},
		{";\n", hub.ErrCode, 1},
		{";,", hub.ErrCode, 1},
		{";,a", hub.ErrCode, 1},
		{";,a>", hub.ErrCode, 1},
		{";,a>0", hub.ErrCode, 1},
		{";,a>00", hub.ErrCode, 1},
		{";,a>0000", hub.ErrCode, 1},
		{";,a>0x0", hub.ErrCode, 1},
		{";,a>00/", hub.ErrCode, 1},
		{";,a>00:", hub.ErrCode, 1},
		{";,a>-01", hub.ErrCode, 1},
		{";,a>+01", hub.ErrCode, 1},
		{";,a000", hub.ErrCode, 1},
		{";,a*000", hub.ErrCode, 1},
		{";>000", hub.ErrCode, 1},
		{";,A>000", hub.ErrCode, 1},
		{";,+>000", hub.ErrCode, 1},
		{";,#>000", hub.ErrCode, 1},
		{";,*>000", hub.ErrCode, 1},
		{";,a/b>000", hub.ErrCode, 1},
		{";,a>000A", hub.ErrCode, 1},
		{";,a>000,a>000", hub.ErrCode, 1},
		{";,>000,>001", hub.ErrCode, 1},
		{";,b>000,a>000", hub.ErrCode, 1},
		{";,aa>000,a>000", hub.ErrCode, 1},
		{";,a>000,>000", hub.ErrCode, 1},
		{";,a>000,0>000", hub.ErrCode, 1},
		{";,0>000,$>000", hub.ErrCode, 1},
		{";,a>000,c>000,b>000", hub.ErrCode, 1},
		{";*", hub.ErrCode, 1},
		{";*00", hub.ErrCode, 1},
		{";*0000", hub.ErrCode, 1},
		{";*0a0", hub.ErrCode, 1},
		{";*000*000", hub.ErrCode, 1},
		{";*000,a>000", hub.ErrCode, 1},
		{";*000A", hub.ErrCode, 1},
		{";;*", hub.ErrCode, 2},
		{";;;", hub.OK, 0},
		{"*002;", hub.ErrCode, 0},
		{";*002", hub.ErrCode, 1},
		{";*001", hub.OK, 0},
		{";;*003", hub.ErrCode, 2},
		{";;,a>002", hub.OK, 0},
		{";;,a>003", hub.ErrCode, 2},
		{";;,a>002,b>999*000", hub.ErrCode, 2},
		{";*005;Q;", hub.ErrCode, 1},
		{";Q;*005;", hub.ErrCode, 1},
		{";\xff", hub.ErrCode, 1},
		{";\x00", hub.ErrCode, 1},
	} {
		err, place := hub.CheckCode(c.text)
		if err != c.err || place != c.place {
			t.Errorf("P7: CheckCode(%.60q) = %d %d, want %d %d", c.text, err, place, c.err, c.place)
		}
		codeAsOracle(t, c.text)
	}
}

func TestCheckCodeBounds(t *testing.T) {
	full := strings.Repeat("a", 39994)
	many := strings.Repeat(";", 998)
	for _, c := range []checkCase{
		{";," + full + ">000", hub.OK, 0},
		{";," + full + "a>000", hub.ErrLong, 0},
		{strings.Repeat("x", 40000), hub.ErrCode, 0},
		{strings.Repeat("x", 40001), hub.ErrLong, 0},
		{strings.Repeat(";", 39999), hub.ErrCode, 1000},
		{strings.Repeat(";", 40000), hub.ErrCode, 1000},
		{strings.Repeat(";", 40001), hub.ErrLong, 0},
		{many, hub.OK, 0},
		{many + ";", hub.OK, 0},
		{many + ";;", hub.ErrCode, 1000},
		{many + ";;;", hub.ErrCode, 1000},
		{many + ";;Q", hub.ErrCode, 1000},
		{many + ";;;Q", hub.ErrCode, 1000},
		{many + ";Q", hub.ErrCode, 999},
		{many + ";Q;", hub.ErrCode, 999},
		{many + ";*999", hub.OK, 0},
		{many + ";*999;", hub.ErrCode, 1000},
		{many + "*999", hub.ErrCode, 998},
		{many + "*998", hub.OK, 0},
		{many + ";*00:", hub.ErrCode, 999},
		{many + ";*00/", hub.ErrCode, 999},
		{many + ";*0a0", hub.ErrCode, 999},
		{many + ";,a>00:", hub.ErrCode, 999},
		{many + ";,a>0/0", hub.ErrCode, 999},
		{many + ";,a>:00", hub.ErrCode, 999},
		{"*999;" + many, hub.OK, 0},
		{"*999" + many, hub.ErrCode, 0},
		{"Q" + many + ";;", hub.ErrCode, 0},
	} {
		err, place := hub.CheckCode(c.text)
		if err != c.err || place != c.place {
			t.Errorf("P7: CheckCode(%.20q of %d bytes) = %d %d, want %d %d", c.text, len(c.text), err, place, c.err, c.place)
		}
	}
}

func codeAsOracle(t *testing.T, code string) {
	t.Helper()
	err, place := hub.CheckCode(code)
	wantErr, wantPlace := oracleCheckCode(code)
	if err != wantErr || place != wantPlace {
		t.Errorf("P7: CheckCode(%q) = %d %d, want %d %d", code, err, place, wantErr, wantPlace)
	}
}

func TestCheckCodeAllShortTexts(t *testing.T) {
	for _, text := range texts("ABP;,a>0*", 5) {
		codeAsOracle(t, text)
	}
	for _, text := range texts("01;*", 7) {
		codeAsOracle(t, text)
	}
}

func TestCheckCodeEachByte(t *testing.T) {
	whole := "AP,a>001,b>002*001;B*000;"
	for at := range len(whole) + 1 {
		for c := range 256 {
			one := string([]byte{byte(c)})
			codeAsOracle(t, whole[:at]+one+whole[at:])
			if at < len(whole) {
				codeAsOracle(t, whole[:at]+one+whole[at+1:])
				codeAsOracle(t, whole[:at]+whole[at+1:])
			}
		}
	}
}

// pieces and their joins make codes that are nearly good.
func TestCheckCodeJoinedPieces(t *testing.T) {
	parts := []string{"", "A", "BC", "CB", ",>000", ",a>001", ",a>002", ",b>001", "*000", "*001", "*002", ";"}
	for _, a := range parts {
		for _, b := range parts {
			for _, c := range parts {
				for _, d := range parts {
					codeAsOracle(t, a+b+";"+c+d)
					codeAsOracle(t, a+b+c+d+";;")
				}
			}
		}
	}
}

func TestWalkCases(t *testing.T) {
	for _, c := range []struct {
		code  string
		topic string
		want  string
	}{
		{"A;B", "a", "[]"},
		{"A;B", "$", "[]"},
		{"*002;*003;A;B", "a", "[0]"},
		{"*002;*003;A;B", "a$", "[0]"},
		{"*002;*003;A;B", "/$", "[]"},
		{"*002;*003;A;B", "$", "[1]"},
		{"*002;*003;A;B", "$a", "[1]"},
		{"*002;*003;A;B", "$/", "[]"},
		{",a>002*003;;A;P", "a", "[0]"},
		{",a>002*003;;A;P", "b", "[15]"},
		{",a>002*003;;A;P", "aa", "[15]"},
		{",a>002;;A", "b", "[]"},
		{",a>002;;A", "a/a", "[]"},
		{",>002*003;;A;B", "/", "[]"},
		{",>002;;A*003;C", "/", "[2]"},
		{",>002;;,>003;D", "/", "[3]"},
		{",>002;;,>003;D,>003", "///", "[3]"},
		{",>002;;,>003;D", "a/", "[]"},
		{",a>002;;,>003;D", "a/", "[3]"},
		{",a>002;;,b>003;D", "a/", "[]"},
		{",a>001;,b>000*001", "a/b/a", "[]"},
		{"C,a>001;AB,b>000*001", "a/b/a", "[0 1]"},
		{"C,a>001;AB,b>000*001", "a/b", "[2]"},
		{"C,a>001;AB,b>000*001", "a/c/c/b", "[2]"},
		{",$a>002;,$a>003;A;B", "$a", "[1]"},
		{"*002;;ABCDEFGHIJKLMNOP", "a", "[0 1 2 3 4 5 6 7 8 9 10 11 12 13 14 15]"},
		{"P*000;", strings.Repeat("/", 24), "[15]"},
		{"*002;;*003;*004;*005;*006;*007;H", "a/b/c/d/e/f", "[7]"},
		{",a>999;" + strings.Repeat(";", 997) + ";P", "a", "[15]"},
		{"A*000;,$" + strings.Repeat("a", 39988) + ">000", strings.Repeat("a", 24), "[0]"},
	} {
		got, err, place := hub.Walk(c.code, c.topic)
		if fmt.Sprint(got) != c.want || err != hub.OK || place != 0 {
			t.Errorf("P8: Walk(%.60q, %q) = %v %d %d, want %s 0 0", c.code, c.topic, got, err, place, c.want)
		}
	}
}

func TestWalkErrors(t *testing.T) {
	longCode := strings.Repeat("x", 40001)
	longTopic := strings.Repeat("+", 25)
	for _, c := range []struct {
		code  string
		topic string
		err   hub.Errno
		place int
	}{
		{longCode, "a", hub.ErrLong, 0},
		{longCode, "", hub.ErrLong, 0},
		{longCode, longTopic, hub.ErrLong, 0},
		{"*000;", longTopic, hub.ErrLong, 0},
		{"", longTopic, hub.ErrLong, 0},
		{";;x", longTopic, hub.ErrLong, 0},
		{"", "", hub.ErrCode, 0},
		{"A", "a", hub.ErrCode, 0},
		{"A*000;x", "a", hub.ErrCode, 1},
		{"A*000;;;*004", "a", hub.ErrCode, 3},
		{"A*000;x", "a/+", hub.ErrCode, 1},
		{strings.Repeat(";", 1000), "a", hub.ErrCode, 1000},
		{"A*000;", "", hub.ErrTopic, 0},
		{"A*000;", "a/+", hub.ErrTopic, 2},
		{"A*000;", "ab\xff", hub.ErrTopic, 2},
	} {
		got, err, place := hub.Walk(c.code, c.topic)
		if len(got) != 0 || err != c.err || place != c.place {
			t.Errorf("P8: Walk(%.20q, %q) = %v %d %d, want [] %d %d", c.code, c.topic, got, err, place, c.err, c.place)
		}
	}
}

func TestWalkManyCodes(t *testing.T) {
	states := []string{"", "A*002", "B,a>000", "AC,>002,a>001*003", ",$>003*001", "P,$>001,b>002"}
	topics := texts("ab$/", 4)[1:]
	for _, a := range states {
		for _, b := range states {
			code := a + ";" + b + ";D,a>003*002;E,>000,b>002"
			for _, topic := range topics {
				got, err, place := hub.Walk(code, topic)
				if want := oracleWalk(code, topic); !slices.Equal(got, want) || err != hub.OK || place != 0 {
					t.Fatalf("P8: Walk(%q, %q) = %v %d %d, want %v", code, topic, got, err, place, want)
				}
			}
		}
	}
}

func TestWalkedListIsTheCallers(t *testing.T) {
	code := "*002;;ABC"
	kept, _, _ := hub.Walk(code, "a")
	list, _, _ := hub.Walk(code, "a")
	for i := range list {
		list[i] = 9
	}
	again, _, _ := hub.Walk(code, "a")
	if !slices.Equal(again, []int{0, 1, 2}) || !slices.Equal(kept, again) {
		t.Errorf("P2: lists that Walk answered share memory: %v %v", kept, again)
	}
}
