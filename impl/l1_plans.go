package impl

import (
	"iter"
	"slices"
)

// SideMax is the greatest number of rows and of columns.
const SideMax = 6

// RoomMax is the greatest number of rooms.
const RoomMax = 9

// markMax is the number of different marks that cells may have before they are drawn:
// the small letters are the most that any function here needs.
const markMax = 'z' - 'a' + 1

// A box is a part of a plan: all cells of some rows and some columns beside each other.
type box struct {
	row, column, high, wide int
}

// area returns the number of cells of a box.
func (b box) area() int {
	return b.high * b.wide
}

// has reports whether a cell lies in a box.
func (b box) has(row, column int) bool {
	return b.row <= row && row < b.row+b.high && b.column <= column && column < b.column+b.wide
}

// A plan keeps the number of the room of each cell.
// The cells are an array, so that copies share no memory, and those outside the plan are 0, so that rows compare with ==.
type plan struct {
	high, wide int
	rooms      int
	cells      [SideMax][SideMax]int
}

// drawPlan returns the plan in which cells with the same mark, from 0 to less than markMax, are a room,
// and false if it would be none.
func drawPlan(high, wide int, mark func(row, column int) int) (plan, bool) {
	if high < 1 || high > SideMax || wide < 1 || wide > SideMax {
		return plan{}, false
	}
	g := plan{high: high, wide: wide}
	var names [markMax]int // 1 more than the room of a mark, so that 0 is none yet
	for row := range high {
		for column := range wide {
			m := mark(row, column)
			if names[m] == 0 {
				g.rooms++
				names[m] = g.rooms
			}
			g.cells[row][column] = names[m] - 1
		}
	}
	if g.rooms > RoomMax || !g.isFilled() {
		return plan{}, false
	}
	return g, true
}

// isFilled reports whether the boxes of the rooms are of these rooms alone and are all cells together.
func (g plan) isFilled() bool {
	area := 0
	for room, b := range g.boxes() {
		if !g.isAlone(room, b) {
			return false
		}
		area += b.area()
	}
	return area == g.high*g.wide
}

// isAlone reports whether all cells of a box are of one room.
func (g plan) isAlone(room int, b box) bool {
	for row := b.row; row < b.row+b.high; row++ {
		for column := b.column; column < b.column+b.wide; column++ {
			if g.cells[row][column] != room {
				return false
			}
		}
	}
	return true
}

// boxes yields each room and its box, in the order of the rooms.
func (g plan) boxes() iter.Seq2[int, box] {
	return func(yield func(int, box) bool) {
		next := 0
		for row := range g.high {
			for column := range g.wide {
				if g.cells[row][column] != next {
					continue
				}
				if !yield(next, g.boxAt(row, column)) {
					return
				}
				next++
			}
		}
	}
}

// boxAt returns the box that begins at a room's first cell and goes as far to the right and down as this room does.
func (g plan) boxAt(row, column int) box {
	room := g.cells[row][column]
	b := box{row: row, column: column, high: 1, wide: 1}
	for row+b.high < g.high && g.cells[row+b.high][column] == room {
		b.high++
	}
	for column+b.wide < g.wide && g.cells[row][column+b.wide] == room {
		b.wide++
	}
	return b
}

// boxOf returns the box of a room, and false if the plan does not have this room.
func (g plan) boxOf(room int) (box, bool) {
	for r, b := range g.boxes() {
		if r == room {
			return b, true
		}
	}
	return box{}, false
}

// hasRoom reports whether a number is that of a room.
func (g plan) hasRoom(room int) bool {
	return 0 <= room && room < g.rooms
}

// rows returns the texts of a plan.
func (g plan) rows() []string {
	texts := make([]string, 0, g.high)
	for row := range g.high {
		text := make([]byte, g.wide)
		for column := range text {
			text[column] = byte('a' + g.cells[row][column])
		}
		texts = append(texts, string(text))
	}
	return texts
}

// turn returns the plan turned by a quarter to the right.
func (g plan) turn() (plan, bool) {
	return drawPlan(g.wide, g.high, func(row, column int) int {
		return g.cells[g.high-1-column][row]
	})
}

// flip returns the plan with each row backwards.
func (g plan) flip() (plan, bool) {
	return drawPlan(g.high, g.wide, func(row, column int) int {
		return g.cells[row][g.wide-1-column]
	})
}

// trans returns the plan with rows and columns exchanged.
func (g plan) trans() (plan, bool) {
	return drawPlan(g.wide, g.high, func(row, column int) int {
		return g.cells[column][row]
	})
}

// tight returns the plan without the rows and columns that repeat the one ahead of them.
func (g plan) tight() (plan, bool) {
	var rows, columns []int
	for row := range g.high {
		if row == 0 || g.cells[row] != g.cells[row-1] {
			rows = append(rows, row)
		}
	}
	for column := range g.wide {
		if column == 0 || !g.repeatsColumn(column) {
			columns = append(columns, column)
		}
	}
	return drawPlan(len(rows), len(columns), func(row, column int) int {
		return g.cells[rows[row]][columns[column]]
	})
}

// repeatsColumn reports whether a column is the same as the one left of it.
func (g plan) repeatsColumn(column int) bool {
	for row := range g.high {
		if g.cells[row][column] != g.cells[row][column-1] {
			return false
		}
	}
	return true
}

// widen returns the plan with each row and each column k times.
func (g plan) widen(k int) (plan, bool) {
	if k < 1 || k > 3 {
		return plan{}, false
	}
	return drawPlan(g.high*k, g.wide*k, func(row, column int) int {
		return g.cells[row/k][column/k]
	})
}

// beside returns the plan with another one to its right.
func (g plan) beside(h plan) (plan, bool) {
	if g.high != h.high {
		return plan{}, false
	}
	return drawPlan(g.high, g.wide+h.wide, func(row, column int) int {
		if column < g.wide {
			return g.cells[row][column]
		}
		return RoomMax + h.cells[row][column-g.wide]
	})
}

// under returns the plan with another one below it.
func (g plan) under(h plan) (plan, bool) {
	if g.wide != h.wide {
		return plan{}, false
	}
	return drawPlan(g.high+h.high, g.wide, func(row, column int) int {
		if row < g.high {
			return g.cells[row][column]
		}
		return RoomMax + h.cells[row-g.high][column]
	})
}

// split returns the plan with a room cut behind k of its rows or columns.
func (g plan) split(room int, letter string, k int) (plan, bool) {
	part, ok := g.boxOf(room)
	switch {
	case ok && letter == "h" && 1 <= k && k < part.high:
		part.high = k
	case ok && letter == "v" && 1 <= k && k < part.wide:
		part.wide = k
	default:
		return plan{}, false
	}
	return drawPlan(g.high, g.wide, func(row, column int) int {
		if part.has(row, column) {
			return RoomMax
		}
		return g.cells[row][column]
	})
}

// merge returns the plan with two rooms made one.
func (g plan) merge(a, b int) (plan, bool) {
	if a == b || !g.hasRoom(a) || !g.hasRoom(b) {
		return plan{}, false
	}
	return drawPlan(g.high, g.wide, func(row, column int) int {
		if g.cells[row][column] == b {
			return a
		}
		return g.cells[row][column]
	})
}

// namePlan returns the plan that a list of texts of small letters comes to, whatever order its letters are in.
func namePlan(p []string) (plan, bool) {
	if len(p) < 1 {
		return plan{}, false
	}
	for _, text := range p {
		if len(text) != len(p[0]) || !isSmall(text) {
			return plan{}, false
		}
	}
	return drawPlan(len(p), len(p[0]), func(row, column int) int {
		return int(p[row][column] - 'a')
	})
}

// isSmall reports whether all bytes of a text are small letters.
func isSmall(text string) bool {
	for i := range len(text) {
		if text[i] < 'a' || text[i] > 'z' {
			return false
		}
	}
	return true
}

// readPlan returns the plan of a list, and false if its letters are not just those that it would be given anew.
func readPlan(p []string) (plan, bool) {
	g, ok := namePlan(p)
	if !ok || !slices.Equal(g.rows(), p) {
		return plan{}, false
	}
	return g, true
}

// tellPlan returns the texts of a plan that came out, and none if it did not.
func tellPlan(g plan, ok bool) ([]string, bool) {
	if !ok {
		return nil, false
	}
	return g.rows(), true
}

// redraw returns the texts of what a change makes of the plan of a list.
func redraw(p []string, change func(plan) (plan, bool)) ([]string, bool) {
	g, ok := readPlan(p)
	if !ok {
		return nil, false
	}
	return tellPlan(change(g))
}

// join returns the texts of what comes of the plans of two lists.
func join(p, q []string, change func(plan, plan) (plan, bool)) ([]string, bool) {
	return redraw(p, func(g plan) (plan, bool) {
		h, ok := readPlan(q)
		if !ok {
			return plan{}, false
		}
		return change(g, h)
	})
}

// PlanIn reports whether a list is a plan.
func PlanIn(p []string) bool {
	_, ok := readPlan(p)
	return ok
}

// PlanName returns the plan that comes from a list of texts of small letters by giving its letters anew, and true.
func PlanName(p []string) ([]string, bool) {
	return tellPlan(namePlan(p))
}

// PlanRooms returns the number of rooms, and true.
func PlanRooms(p []string) (int, bool) {
	g, ok := readPlan(p)
	return g.rooms, ok
}

// PlanRoom returns the first row, the first column, the number of rows and the number of columns of a room, and true.
func PlanRoom(p []string, room int) (int, int, int, int, bool) {
	g, ok := readPlan(p)
	if !ok {
		return 0, 0, 0, 0, false
	}
	b, ok := g.boxOf(room)
	return b.row, b.column, b.high, b.wide, ok
}

// PlanTurn returns the plan turned by a quarter to the right, and true.
func PlanTurn(p []string) ([]string, bool) {
	return redraw(p, plan.turn)
}

// PlanFlip returns the plan as it is seen from behind, each row backwards, and true.
func PlanFlip(p []string) ([]string, bool) {
	return redraw(p, plan.flip)
}

// PlanTight returns the plan without each row that is the same as the one above it, and without each column that is the same as the one left of it, and true.
func PlanTight(p []string) ([]string, bool) {
	return redraw(p, plan.tight)
}

// PlanWide returns the plan with each row and each column k times, k from 1 to 3, and true.
func PlanWide(p []string, k int) ([]string, bool) {
	return redraw(p, func(g plan) (plan, bool) { return g.widen(k) })
}

// PlanBeside returns the plan of two plans with as many rows, the second one to the right, and true.
func PlanBeside(p []string, q []string) ([]string, bool) {
	return join(p, q, plan.beside)
}

// PlanUnder returns the plan of two plans with as many columns, the second one below, and true.
func PlanUnder(p []string, q []string) ([]string, bool) {
	return join(p, q, plan.under)
}

// PlanSplit returns the plan with a room cut into two behind k of its rows, by the letter h, or behind k of its columns, by the letter v, and true.
func PlanSplit(p []string, room int, letter string, k int) ([]string, bool) {
	return redraw(p, func(g plan) (plan, bool) { return g.split(room, letter, k) })
}

// PlanMerge returns the plan with two rooms made one, and true.
func PlanMerge(p []string, a int, b int) ([]string, bool) {
	return redraw(p, func(g plan) (plan, bool) { return g.merge(a, b) })
}

// PlanAreas returns the number of cells of each room, and true.
func PlanAreas(p []string) ([]int, bool) {
	g, ok := readPlan(p)
	if !ok {
		return nil, false
	}
	areas := make([]int, 0, g.rooms)
	for _, b := range g.boxes() {
		areas = append(areas, b.area())
	}
	return areas, true
}

// PlanTrans returns the plan with rows and columns exchanged, and true.
func PlanTrans(p []string) ([]string, bool) {
	return redraw(p, plan.trans)
}
