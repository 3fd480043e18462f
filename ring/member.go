package ring

import "adjoint/api"

// number is the number of a member, or of a piece, that is meant modulo how many there are.
func (m *Member) number(n int) int { return (n%m.many + m.many) % m.many }

// notes is how many notes the member sends, and takes.
func (m *Member) notes() int { return len(m.does.rounds) * (m.many - 1) }

// round is the round to which a note belongs, and which note of that round it is.
func (m *Member) round(step int) (r round, t int) {
	return m.does.rounds[step/(m.many-1)], step % (m.many - 1)
}

// comes is from whom a note comes that the member takes, and which of that one's pieces it is.
func (m *Member) comes(step int) (from, piece int) {
	r, t := m.round(step)
	from = m.number(m.me - r.far(t))
	return from, m.number(r.piece(from, t))
}

// expects tells whether a note is one that the member takes, and has not taken yet.
func (m *Member) expects(n api.Note) bool {
	if n.To != m.me || n.Step < m.used || n.Step >= m.notes() {
		return false
	}
	if _, taken := m.early[n.Step]; taken {
		return false
	}
	from, piece := m.comes(n.Step)
	return n.From == from && m.does.fits(len(n.Data), len(m.stock.sends[piece]))
}

// useThose uses the notes that were taken, up to the first one that is missing.
func (m *Member) useThose() {
	for {
		words, taken := m.early[m.used]
		if !taken {
			return
		}
		delete(m.early, m.used)
		r, _ := m.round(m.used)
		at := m.does.place(m.comes(m.used))
		m.stock.has[at] = r.use(m.stock.has[at], words)
		m.used++
	}
}
