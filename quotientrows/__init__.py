"""Fractions as rows of quotients; the functions stand in quotientrows.fractions."""
