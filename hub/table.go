package hub

const maxPairs = 6

// Table is pairs of filters and who. Make it by NewTable.
type Table struct {
	pairs []pair
}

type pair struct {
	filter string
	who    int
}

// NewTable makes a table (P5).
func NewTable() *Table {
	return &Table{}
}

// Add puts a pair in (P5).
func (b *Table) Add(f string, who int) (Errno, int) {
	err, place := checkPair(f, who)
	if err != OK {
		return err, place
	}
	if b.find(f, who) < len(b.pairs) {
		return ErrTwice, 0
	}
	if len(b.pairs) >= maxPairs {
		return ErrFull, 0
	}
	b.pairs = append(b.pairs, pair{filter: f, who: who})
	return OK, 0
}

// Drop takes a pair out (P5).
func (b *Table) Drop(f string, who int) (Errno, int) {
	err, place := checkPair(f, who)
	if err != OK {
		return err, place
	}
	at := b.find(f, who)
	if at == len(b.pairs) {
		return ErrNone, 0
	}
	var others []pair
	for i, p := range b.pairs {
		if i != at {
			others = append(others, p)
		}
	}
	b.pairs = others
	return OK, 0
}

func checkPair(f string, who int) (Errno, int) {
	err, place := CheckFilter(f)
	if err != OK {
		return err, place
	}
	if who < 0 || who >= len(whoLetters) {
		return ErrWho, 0
	}
	return OK, 0
}

// find answers where the pair stands, or the count of pairs, if it is not
// there.
func (b *Table) find(f string, who int) int {
	for i, p := range b.pairs {
		if p.filter == f && p.who == who {
			return i
		}
	}
	return len(b.pairs)
}

// Route tells who has a filter that matches (P6).
func (b *Table) Route(t string) ([]int, Errno, int) {
	err, place := CheckTopic(t)
	if err != OK {
		return nil, err, place
	}
	var all []int
	for who := 0; who < len(whoLetters); who++ {
		if b.reaches(who, t) {
			all = append(all, who)
		}
	}
	return all, OK, 0
}

func (b *Table) reaches(who int, t string) bool {
	for _, p := range b.pairs {
		if p.who == who && matches(p.filter, t) {
			return true
		}
	}
	return false
}

// Code writes the table as a least machine (P9).
func (b *Table) Code() string {
	// A filter that begins with '$' matches no topic that does not, and any
	// other filter none that does: each pair has to do with one of the two
	// states alone in which a walk begins.
	var plain []thread
	var dollar []thread
	for _, p := range b.pairs {
		if beginsWith(p.filter, '$') {
			dollar = append(dollar, thread{filter: p.filter, who: p.who})
		} else {
			plain = append(plain, thread{filter: p.filter, who: p.who})
		}
	}
	return codeOf(plain, dollar)
}
