package house

import "facet/api"

// line is what may be said: how many words stand behind its first one, whether any
// number may follow them, and what it does. Told words are heeded only if nothing is wrong.
type line struct {
	words  int
	isOpen bool
	do     func(d *desk, words []string) (told []string, e api.Errno)
}

// takes: may so many words stand behind its first one?
func (l line) takes(words int) bool {
	return words == l.words || l.isOpen && words > l.words
}

// lines has all of them, by their first words.
func lines() map[string]line {
	return map[string]line{
		"points":   {0, true, (*desk).points},
		"cyclic":   {2, false, (*desk).cyclic},
		"named":    {2, false, (*desk).named},
		"rows":     {0, false, (*desk).rows},
		"corners":  {0, false, (*desk).corners},
		"counts":   {0, false, (*desk).counts},
		"short":    {0, false, (*desk).short},
		"ehrhart":  {0, false, (*desk).ehrhart},
		"delta":    {0, false, (*desk).delta},
		"volume":   {0, false, (*desk).volume},
		"places":   {1, false, (*desk).places},
		"inner":    {1, false, (*desk).inner},
		"where":    {1, false, (*desk).where},
		"polar":    {0, false, (*desk).polar},
		"matroid":  {1, true, (*desk).bases},
		"graph":    {1, true, (*desk).graph},
		"circuits": {0, false, (*desk).circuits},
		"flats":    {0, false, (*desk).flats},
		"dual":     {0, false, (*desk).dual},
		"greedy":   {0, true, (*desk).greedy},
		"cut":      {1, true, (*desk).cut},
		"best":     {1, true, (*desk).best},
		"least":    {1, true, (*desk).least},
		"planes":   {1, true, (*desk).planes},
		"roots":    {1, false, (*desk).roots},
		"degrees":  {1, false, (*desk).degrees},
		"reduce":   {1, true, (*desk).reduce},
		"size":     {1, true, (*desk).size},
		"marks":    {1, true, (*desk).marks},
		"word":     {1, true, (*desk).word},
		"orders":   {1, true, (*desk).orders},
	}
}
