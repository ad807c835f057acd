package name

import "hearsay/api"

// mostLabels is how many labels a name has room for, ahead of its byte 0.
const mostLabels = (api.MaxName - 1) / 2

// marks tell where a name's labels begin, and behind them where its byte 0 stands. They are an array, so that looking at a name takes no memory.
type marks struct {
	at    [mostLabels + 1]uint8
	count int
}

// marksOf are the marks of n; none, and false, if n is no name.
func marksOf(n api.Name) (marks, bool) {
	if len(n) > api.MaxName {
		return marks{}, false
	}
	var m marks
	i := 0
	for i < len(n) && 0 < n[i] && n[i] <= api.MaxLabel {
		m.at[m.count] = uint8(i)
		m.count++
		i += 1 + int(n[i])
	}
	if i != len(n)-1 || n[i] != 0 {
		return marks{}, false
	}
	m.at[m.count] = uint8(i)
	return m, true
}

// label is the label number i of n, whose marks these are.
func (m *marks) label(n api.Name, i int) string {
	return string(n[m.at[i]+1 : m.at[i+1]])
}
